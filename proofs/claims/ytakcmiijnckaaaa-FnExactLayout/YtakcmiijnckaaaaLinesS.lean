/- What spec's l11At, l11Line and LinesOk answer. -/
import Derived.Test.YtakcmiijnckaaaaLinesOkI
namespace Go.Proofs.Ytakcmiijnckaaaa
open Go.RowKit
set_option linter.unusedVariables false

/-- The place of a label; -1 without it. -/
def atV (ls : List Ln) (s : ByteArray) : Int := if pos ls s < ls.length then (pos ls s : Int) else -1

theorem atV_on {ls : List Ln} {s : ByteArray} {i : Nat} : (i : Int) < atV ls s ↔ onP ls i s := by
  unfold atV onP
  split <;> omega

theorem atV_eq {ls : List Ln} {s : ByteArray} {i : Nat} (hi : i < ls.length) : atV ls s = (i : Int) ↔ pos ls s = i := by
  unfold atV
  have := pos_le ls s
  split <;> omega

set_option maxRecDepth 100000 in
set_option maxHeartbeats 2000000 in
theorem at_any (a : Option Addr) (cap : Nat) (ls : List Ln) (s : ByteArray) (w : World) (hl : ls.length ≤ 1048576) (h : Lns w a ls) :
    Calls Try.prog 78 #[.slice a ls.length cap, .string s] w fun e w' => e = .returned (.int .i64 (atV ls s)) ∧ Ext w w' := by
  obtain ⟨n, hn⟩ : ∃ n, n = ls.length := ⟨_, rfl⟩
  obtain ⟨v, hv⟩ : ∃ v, v = atV ls s := ⟨_, rfl⟩
  have HA : Hid (Lns w a ls ∧ n = ls.length ∧ v = atV ls s) := ⟨h, hn, hv⟩
  rw [← hn, ← hv]
  have hl' : n ≤ 1048576 := by omega
  clear h hn hl hv
  go_enter Try.func78, Try.ntmps78
  go_wp2_with fail
  go_loopw [5] (fun i wr => ∃ k : Nat, i = .int .i64 k ∧ k ≤ n ∧ Hid (Ext w wr ∧ ∀ j, j < k → isAt (ls.getD j zeroL) s = false)) (fun i _ => n - (intOf i).toNat)
  case atStart => exact ⟨0, rfl, by omega, Ext.refl _, fun j hj => by omega⟩
  case round =>
    obtain ⟨k, rfl, hk, HR⟩ := hrel
    by_cases hlt : k < n
    · have bk : (k : Int) < (n : Int) := by omega
      obtain ⟨⟨lab, ⟨o, kk, y, nn⟩, yes, no⟩, hp⟩ : ∃ p, p = ls.getD k zeroL := ⟨_, rfl⟩
      obtain ⟨b, off, ha, hq⟩ := (HA.out.1.ext HR.out.1).hept (k := k) (by have := HA.out.2; omega) hp
      subst ha
      have HQ : Hid (Hept wr b (off + k * 7) ⟨lab, (o, kk, y, nn), yes, no⟩) := hq
      obtain ⟨c0, c1, c2, c3, c4, c5, c6⟩ := hq
      simp only at c0 c1 c2 c3 c4 c5 c6
      have HP : Hid (Ln.mk lab (o, kk, y, nn) yes no = ls.getD k zeroL) := hp
      clear hp
      obtain ⟨z, hz⟩ : ∃ z, z = decide ((o, kk, y, nn) = zeroW) := ⟨_, rfl⟩
      have HPL : Hid (∀ w, Calls Try.prog 55 #[.agg #[.string lab, .int .i64 o, .int .i64 kk, .int .i64 y, .int .i64 nn, .string yes, .string no]] w fun e w' => e = .returned (.bool z) ∧ Ext w w') := fun w => by rw [hz]; exact sPlace_any ⟨lab, (o, kk, y, nn), yes, no⟩ w
      have HAT : Hid (isAt (ls.getD k zeroL) s = (z && (lab.toList == s.toList))) := by
        show _ = _
        rw [← HP.out, eqText, hz]
        rfl
      clear hz
      have HN1 : Hid (isAt (ls.getD k zeroL) s = false → ∀ j, j < k + 1 → isAt (ls.getD j zeroL) s = false) := fun h j hj => by
        rcases Nat.lt_or_ge j k with h1 | h1
        · exact HR.out.2 j h1
        · obtain rfl : j = k := by omega
          exact h
      cases z with
      | false =>
        go_wp2_with fail
        refine (HPL.out _).mono ?_
        rintro e w2 ⟨rfl, e2⟩
        have E2 : Hid (Ext w w2) := HR.out.1.trans e2
        clear e2 c0 c1 c2 c3 c4 c5 c6
        go_wp2
        go_roundw
        case rel => exact ⟨k + 1, by go_num, by omega, E2.out, HN1.out (by rw [HAT.out]; rfl)⟩
        case measure => simp [intOf]; omega
      | true =>
        by_cases he : (lab.toList == s.toList) = true
        · have HV : Hid (v = (k : Int)) := by
            show _ = _
            have hkl : k < ls.length := by have := HA.out.2.1; omega
            rw [HA.out.2.2, atV_eq hkl]
            exact pos_first hkl (by rw [HAT.out, he]; rfl) HR.out.2
          go_wp2_with fail
          refine (HPL.out _).mono ?_
          rintro e w2 ⟨rfl, e2⟩
          have E2 : Hid (Ext w w2) := HR.out.1.trans e2
          obtain ⟨d0, _⟩ := HQ.out.ext e2
          simp only at d0
          clear e2 c0 c1 c2 c3 c4 c5 c6
          go_wp2
          go_ret
          exact ⟨by rw [HV.out]; rfl, E2.out⟩
        · have he' : (lab.toList == s.toList) = false := by simpa using he
          clear he
          go_wp2_with fail
          refine (HPL.out _).mono ?_
          rintro e w2 ⟨rfl, e2⟩
          have E2 : Hid (Ext w w2) := HR.out.1.trans e2
          obtain ⟨d0, _⟩ := HQ.out.ext e2
          simp only at d0
          clear e2 c0 c1 c2 c3 c4 c5 c6
          go_wp2
          go_roundw
          case rel => exact ⟨k + 1, by go_num, by omega, E2.out, HN1.out (by rw [HAT.out, he']; rfl)⟩
          case measure => simp [intOf]; omega
    · have hkn : k = n := by omega
      have bk : ¬ ((k : Int) < (n : Int)) := by omega
      have HV : Hid (v = -1) := by
        show _ = _
        rw [HA.out.2.2]
        unfold atV
        rw [pos_none fun i hi => HR.out.2 i (by have := HA.out.2.1; omega), if_neg (Nat.lt_irrefl _)]
      clear hkn
      go_wp2
      go_ret
      exact ⟨by rw [HV.out]; rfl, HR.out.1⟩

set_option maxRecDepth 100000 in
set_option maxHeartbeats 4000000 in
theorem sLine_any (a : Option Addr) (cap : Nat) (ls : List Ln) (i : Nat) (z : Bool) (w : World) (hl : ls.length ≤ 1048576) (h : Lns w a ls) (hi : i < ls.length) (hz : z = true ↔ lineP ls i (ls.getD i zeroL)) :
    Calls Try.prog 54 #[.slice a ls.length cap, .int .i64 (i : Int)] w fun e w' => e = .returned (.bool z) ∧ Ext w w' := by
  obtain ⟨n, hn⟩ : ∃ n, n = ls.length := ⟨_, rfl⟩
  have bi : (i : Int) < (n : Int) := by omega
  obtain ⟨⟨lab, ⟨o, kk, y, nn⟩, yes, no⟩, hp⟩ : ∃ p, p = ls.getD i zeroL := ⟨_, rfl⟩
  obtain ⟨b, off, ha, hq⟩ := h.hept hi hp
  subst ha
  obtain ⟨c0, c1, c2, c3, c4, c5, c6⟩ := hq
  simp only at c0 c1 c2 c3 c4 c5 c6
  have HAT : Hid (∀ (s : ByteArray) (v : Int) (w' : World), v = atV ls s → Ext w w' → Calls Try.prog 78 #[.slice (some ⟨b, off, none⟩) n cap, .string s] w' fun e w'' => e = .returned (.int .i64 v) ∧ Ext w' w'') := fun s v w' hv he => by
    rw [hv, hn]
    exact at_any _ cap ls s w' hl (h.ext he)
  have HZ : Hid (z = true ↔ lineP ls i ⟨lab, (o, kk, y, nn), yes, no⟩) := by rw [hp]; exact hz
  have HI : Hid (i < ls.length) := hi
  rw [← hn]
  clear h hn hl hz hp hi
  obtain ⟨v1, hv1⟩ : ∃ v, v = atV ls lab := ⟨_, rfl⟩
  obtain ⟨v2, hv2⟩ : ∃ v, v = atV ls yes := ⟨_, rfl⟩
  obtain ⟨v3, hv3⟩ : ∃ v, v = atV ls no := ⟨_, rfl⟩
  have HA1 : Hid (v1 = atV ls lab) := hv1
  have HA2 : Hid (v2 = atV ls yes) := hv2
  have HA3 : Hid (v3 = atV ls no) := hv3
  have HP : Hid (pos ls lab = i ↔ v1 = (i : Int)) := by show _ ↔ _; rw [hv1, atV_eq HI.out]
  have HY : Hid (onP ls i yes ↔ (i : Int) < v2) := by show _ ↔ _; rw [hv2, atV_on]
  have HNO : Hid (onP ls i no ↔ (i : Int) < v3) := by show _ ↔ _; rw [hv3, atV_on]
  clear hv1 hv2 hv3
  have HD : Hid (∀ {w2 : World}, Ext (w.alloc (.cells #[.string lab, .int .i64 o, .int .i64 kk, .int .i64 y, .int .i64 nn, .string yes, .string no] 37)) w2 → Hept w2 w.heap.size 0 ⟨lab, (o, kk, y, nn), yes, no⟩) := fun e => (hept_box w ⟨lab, (o, kk, y, nn), yes, no⟩ 37).ext e
  by_cases hzero : o = 0 ∧ kk = 0 ∧ y = 0 ∧ nn = 0
  · obtain ⟨rfl, rfl, rfl, rfl⟩ := hzero
    have HPL : Hid (∀ w, Calls Try.prog 55 #[.agg #[.string lab, .int .i64 0, .int .i64 0, .int .i64 0, .int .i64 0, .string yes, .string no]] w fun e w' => e = .returned (.bool true) ∧ Ext w w') := fun w => sPlace_any ⟨lab, (0, 0, 0, 0), yes, no⟩ w
    obtain ⟨r, hr⟩ : ∃ r, r = inB lab.size 1 12 := ⟨_, rfl⟩
    have HR : Hid (z = true ↔ r = true ∧ yes.toList = [] ∧ no.toList = [] ∧ v1 = (i : Int)) := by
      show _ ↔ _
      rw [HZ.out, none_iff, none_iff, ← HP.out, hr, inB_true]
      unfold lineP
      constructor
      · rintro (⟨_, h1, h2, h3, h4⟩ | ⟨h0, _⟩)
        · simp only at h1
          exact ⟨by omega, h2, h3, h4⟩
        · exact absurd rfl h0
      · rintro ⟨h1, h2, h3, h4⟩
        exact .inl ⟨rfl, by simp only; omega, h2, h3, h4⟩
    have HIN : Hid (∀ w, Calls Try.prog 41 #[.int .i64 (lab.size : Int), .int .i64 1, .int .i64 12] w fun e w' => e = .returned (.bool r) ∧ w = w') := fun w => by rw [hr]; exact in_any _ _ _ w
    clear hr HZ HP HY HNO
    go_enter Try.func54, Try.ntmps54
    go_wp2_with fail
    refine (HPL.out _).mono ?_
    rintro e w2 ⟨rfl, e2⟩
    obtain ⟨d0, d1, d2, d3, d4, d5, d6⟩ := HD.out e2
    simp only [Nat.zero_add] at d0 d1 d2 d3 d4 d5 d6
    have E2 : Hid (Ext _ w2) := e2
    clear e2 c0 c1 c2 c3 c4 c5 c6 HPL
    cases r with
    | false =>
      obtain rfl : z = false := bool_not HR.out fun h => by cases h.1
      go_wp2_with fail
      refine (HIN.out _).mono ?_
      rintro e w3 ⟨rfl, rfl⟩
      go_wp2
      go_ret
      exact ⟨rfl, (Ext.one _ _).trans E2.out⟩
    | true =>
      go_wp2_with fail
      refine (HIN.out _).mono ?_
      rintro e w3 ⟨rfl, rfl⟩
      by_cases hy : yes.toList = []
      · by_cases hno : no.toList = []
        · go_wp2_with fail
          refine (HAT.out lab v1 _ HA1.out ((Ext.one _ _).trans E2.out)).mono ?_
          rintro e w4 ⟨rfl, e4⟩
          have E4 : Hid (Ext w w4) := ((Ext.one _ _).trans E2.out).trans e4
          clear e4
          by_cases hv : v1 = (i : Int)
          · obtain rfl : z = true := HR.out.2 ⟨by simp, hy, hno, hv⟩
            subst hv
            go_wp2
            go_ret
            exact ⟨rfl, E4.out⟩
          · obtain rfl : z = false := bool_not HR.out fun h => hv h.2.2.2
            have qv : (v1 == (i : Int)) = false := by simpa using hv
            clear hv
            go_wp2
            go_ret
            exact ⟨by simp, E4.out⟩
        · obtain rfl : z = false := bool_not HR.out fun h => hno h.2.2.1
          go_wp2
          go_ret
          exact ⟨rfl, (Ext.one _ _).trans E2.out⟩
      · obtain rfl : z = false := bool_not HR.out fun h => hy h.2.1
        go_wp2
        go_ret
        exact ⟨rfl, (Ext.one _ _).trans E2.out⟩
  · have hzw : (o, kk, y, nn) ≠ zeroW := fun h => hzero (by unfold zeroW at h; simpa [Prod.mk.injEq] using h)
    have HPL : Hid (∀ w, Calls Try.prog 55 #[.agg #[.string lab, .int .i64 o, .int .i64 kk, .int .i64 y, .int .i64 nn, .string yes, .string no]] w fun e w' => e = .returned (.bool false) ∧ Ext w w') := fun w => by have := sPlace_any ⟨lab, (o, kk, y, nn), yes, no⟩ w; simp only at this; rw [decide_eq_false hzw] at this; exact this
    obtain ⟨r, hr⟩ : ∃ r, r = insB o kk y nn := ⟨_, rfl⟩
    have HR : Hid (z = true ↔ lab.toList = [] ∧ y = 0 ∧ nn = 0 ∧ (o = 7 → kk = 0) ∧ r = true ∧ ((o = 7 ∧ no.toList = [] ∧ (i : Int) < v2) ∨ (askB o = true ∧ (i : Int) < v2 ∧ (i : Int) < v3) ∨ (o ≠ 7 ∧ askB o = false ∧ yes.toList = [] ∧ no.toList = []))) := by
      show _ ↔ _
      rw [HZ.out, none_iff, none_iff, none_iff, hr, ← HY.out, ← HNO.out, askB_true, askB_false]
      unfold lineP
      constructor
      · rintro (⟨h0, _⟩ | ⟨_, h⟩)
        · exact absurd h0 hzw
        · exact h
      · intro h
        exact .inr ⟨hzw, h⟩
    have HIN : Hid (∀ w, Calls Try.prog 42 #[.agg #[.int .i64 o, .int .i64 kk, .int .i64 y, .int .i64 nn]] w fun e w' => e = .returned (.bool r) ∧ Ext w w') := fun w => by rw [hr]; exact sInsOk_any o kk y nn w
    obtain ⟨q, hq⟩ : ∃ q, q = askB o := ⟨_, rfl⟩
    have HQ : Hid (∀ w, Calls Try.prog 53 #[.int .i64 o] w fun e w' => e = .returned (.bool q) ∧ w = w') := fun w => by rw [hq]; exact ask_any o w
    rw [← hq] at HR
    have HQ7 : Hid (o = 7 → q = false) := fun h => by rw [hq, h]; rfl
    clear hr hq hzw hzero HZ HP HY HNO
    go_enter Try.func54, Try.ntmps54
    go_wp2_with fail
    refine (HPL.out _).mono ?_
    rintro e w2 ⟨rfl, e2⟩
    obtain ⟨d0, d1, d2, d3, d4, d5, d6⟩ := HD.out e2
    simp only [Nat.zero_add] at d0 d1 d2 d3 d4 d5 d6
    have E2 : Hid (Ext w w2) := (Ext.one _ _).trans e2
    clear e2 c0 c1 c2 c3 c4 c5 c6 HPL
    obtain ⟨W, hW⟩ : ∃ W, W = w2.alloc (.cells #[.int .i64 o, .int .i64 kk, .int .i64 y, .int .i64 nn] 35) := ⟨_, rfl⟩
    have HE : Hid (Ext w W ∧ ∀ {w3 : World}, Ext W w3 → Hept w3 w.heap.size 0 ⟨lab, (o, kk, y, nn), yes, no⟩ ∧ Quad w3 w2.heap.size 0 (o, kk, y, nn)) := by
      refine ⟨by rw [hW]; exact E2.out.trans (Ext.one _ _), fun {w3} e3 => ⟨?_, ?_⟩⟩
      · have h2 : Hept w2 w.heap.size 0 ⟨lab, (o, kk, y, nn), yes, no⟩ := by
          refine ⟨?_, ?_, ?_, ?_, ?_, ?_, ?_⟩ <;> simp only [Nat.zero_add] <;> assumption
        have h3 : Hept W w.heap.size 0 ⟨lab, (o, kk, y, nn), yes, no⟩ := by rw [hW]; exact h2.ext (Ext.one _ _)
        exact h3.ext e3
      · have h3 : Quad W w2.heap.size 0 (o, kk, y, nn) := by
          rw [hW]
          exact ⟨by simp [go_sem], by simp [go_sem], by simp [go_sem], by simp [go_sem]⟩
        exact h3.below e3 h3.lt
    have HW : Hid (W = w2.alloc (.cells #[.int .i64 o, .int .i64 kk, .int .i64 y, .int .i64 nn] 35)) := hW
    clear hW
    obtain ⟨⟨x0, x1, x2, x3, x4, x5, x6⟩, _⟩ := HE.out.2 (Ext.refl W)
    simp only [Nat.zero_add] at x0 x1 x2 x3 x4 x5 x6
    rw [HW.out] at x0 x1 x2 x3 x4 x5 x6
    by_cases hla : lab.toList = []
    · by_cases hy0 : y = 0
      · by_cases hn0 : nn = 0
        · by_cases h7 : o = 7
          · by_cases hk : kk = 0
            · subst h7
              subst hy0
              subst hn0
              subst hk
              go_wp2_with fail
              rw [← HW.out]
              refine (HIN.out _).mono ?_
              rintro e w3 ⟨rfl, e3⟩
              obtain ⟨⟨f0, f1, f2, f3, f4, f5, f6⟩, ⟨g0, g1, g2, g3⟩⟩ := HE.out.2 e3
              simp only [Nat.zero_add] at f0 f1 f2 f3 f4 f5 f6 g0 g1 g2 g3
              have E3 : Hid (Ext w w3) := HE.out.1.trans e3
              clear e3 d0 d1 d2 d3 d4 d5 d6 x0 x1 x2 x3 x4 x5 x6 HE HW E2
              cases r with
              | false =>
                obtain rfl : z = false := bool_not HR.out fun h => by simpa using h.2.2.2.2.1
                go_wp2
                go_ret
                exact ⟨rfl, E3.out⟩
              | true =>
                by_cases hno : no.toList = []
                · go_wp2_with fail
                  refine (HAT.out yes v2 _ HA2.out E3.out).mono ?_
                  rintro e w4 ⟨rfl, e4⟩
                  have E4 : Hid (Ext w w4) := E3.out.trans e4
                  clear e4
                  by_cases hv : (i : Int) < v2
                  · obtain rfl : z = true := HR.out.2 ⟨hla, by simp, by simp, by simp, by simp, .inl ⟨by simp, hno, hv⟩⟩
                    go_wp2
                    go_ret
                    exact ⟨rfl, E4.out⟩
                  · obtain rfl : z = false := bool_not HR.out fun h => by
                      rcases h.2.2.2.2.2 with h | h | h
                      · exact hv h.2.2
                      · exact hv h.2.1
                      · exact absurd rfl h.1
                    go_wp2
                    go_ret
                    exact ⟨by simp_all, E4.out⟩
                · obtain rfl : z = false := bool_not HR.out fun h => by
                    rcases h.2.2.2.2.2 with h | h | h
                    · exact hno h.2.1
                    · have := HQ7.out (by simp); rw [this] at h; simp at h
                    · exact absurd rfl h.1
                  go_wp2
                  go_ret
                  exact ⟨rfl, E3.out⟩
            · obtain rfl : z = false := bool_not HR.out fun h => hk (h.2.2.2.1 h7)
              subst h7
              subst hy0
              subst hn0
              have qk : (kk != 0) = true := by simpa using hk
              clear hk
              go_wp2
              go_ret
              exact ⟨rfl, E2.out.trans (Ext.one _ _)⟩
          · subst hy0
            subst hn0
            have q7 : (o == 7) = false := by simpa using h7
            have H7 : Hid (o ≠ 7) := h7
            clear h7
            go_wp2_with fail
            rw [← HW.out]
            refine (HIN.out _).mono ?_
            rintro e w3 ⟨rfl, e3⟩
            obtain ⟨⟨f0, f1, f2, f3, f4, f5, f6⟩, ⟨g0, g1, g2, g3⟩⟩ := HE.out.2 e3
            simp only [Nat.zero_add] at f0 f1 f2 f3 f4 f5 f6 g0 g1 g2 g3
            have E3 : Hid (Ext w w3) := HE.out.1.trans e3
            clear e3 d0 d1 d2 d3 d4 d5 d6 x0 x1 x2 x3 x4 x5 x6 HE HW E2
            cases r with
            | false =>
              obtain rfl : z = false := bool_not HR.out fun h => by simpa using h.2.2.2.2.1
              go_wp2
              go_ret
              exact ⟨rfl, E3.out⟩
            | true =>
              go_wp2_with fail
              refine (HQ.out _).mono ?_
              rintro e w4 ⟨rfl, rfl⟩
              cases q with
              | true =>
                go_wp2_with fail
                refine (HAT.out yes v2 _ HA2.out E3.out).mono ?_
                rintro e w4 ⟨rfl, e4⟩
                have h4 := E3.out.trans e4
                have E4 : Hid (Ext w w4) := h4
                have f6' : w4.cell? ⟨w.heap.size, 6, none⟩ = some (.string no) := (e4.cell (p := ⟨w.heap.size, 6, none⟩) (World.block_lt_of_cell? _ _ f6)).trans f6
                clear e4 f0 f1 f2 f3 f4 f5 f6 g0 g1 g2 g3 h4 E3
                by_cases hv : (i : Int) < v2
                · go_wp2_with fail
                  refine (HAT.out no v3 _ HA3.out E4.out).mono ?_
                  rintro e w5 ⟨rfl, e5⟩
                  have E5 : Hid (Ext w w5) := E4.out.trans e5
                  clear e5
                  by_cases hv3 : (i : Int) < v3
                  · obtain rfl : z = true := HR.out.2 ⟨hla, by simp, by simp, fun h => absurd h H7.out, by simp, .inr (.inl ⟨by simp, hv, hv3⟩)⟩
                    go_wp2
                    go_ret
                    exact ⟨rfl, E5.out⟩
                  · obtain rfl : z = false := bool_not HR.out fun h => by
                      rcases h.2.2.2.2.2 with h | h | h
                      · exact absurd h.1 H7.out
                      · exact hv3 h.2.2
                      · simpa using h.2.1
                    go_wp2
                    go_ret
                    exact ⟨by simp_all, E5.out⟩
                · obtain rfl : z = false := bool_not HR.out fun h => by
                    rcases h.2.2.2.2.2 with h | h | h
                    · exact absurd h.1 H7.out
                    · exact hv h.2.1
                    · simpa using h.2.1
                  go_wp2
                  go_ret
                  exact ⟨rfl, E4.out⟩
              | false =>
                by_cases hy : yes.toList = []
                · by_cases hno : no.toList = []
                  · obtain rfl : z = true := HR.out.2 ⟨hla, by simp, by simp, fun h => absurd h H7.out, by simp, .inr (.inr ⟨H7.out, by simp, hy, hno⟩)⟩
                    go_wp2
                    go_ret
                    exact ⟨rfl, E3.out⟩
                  · obtain rfl : z = false := bool_not HR.out fun h => by
                      rcases h.2.2.2.2.2 with h | h | h
                      · exact absurd h.1 H7.out
                      · simpa using h.1
                      · exact hno h.2.2.2
                    go_wp2
                    go_ret
                    exact ⟨by simp_all, E3.out⟩
                · obtain rfl : z = false := bool_not HR.out fun h => by
                    rcases h.2.2.2.2.2 with h | h | h
                    · exact absurd h.1 H7.out
                    · simpa using h.1
                    · exact hy h.2.2.1
                  go_wp2
                  go_ret
                  exact ⟨rfl, E3.out⟩
        · obtain rfl : z = false := bool_not HR.out fun h => hn0 h.2.2.1
          subst hy0
          have qn : (nn != 0) = true := by simpa using hn0
          clear hn0
          go_wp2
          go_ret
          exact ⟨rfl, E2.out.trans (Ext.one _ _)⟩
      · obtain rfl : z = false := bool_not HR.out fun h => hy0 h.2.1
        have qy : (y != 0) = true := by simpa using hy0
        clear hy0
        go_wp2
        go_ret
        exact ⟨rfl, E2.out.trans (Ext.one _ _)⟩
    · obtain rfl : z = false := bool_not HR.out fun h => hla h.1
      go_wp2
      go_ret
      exact ⟨rfl, E2.out.trans (Ext.one _ _)⟩

end Go.Proofs.Ytakcmiijnckaaaa
