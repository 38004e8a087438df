/- What impl's LinesOk answers: whether lines are right. -/
import Derived.Test.YtakcmiijnckaaaaLeadI
namespace Go.Proofs.Ytakcmiijnckaaaa
open Go.RowKit
set_option linter.unusedVariables false

set_option maxRecDepth 100000 in
set_option maxHeartbeats 4000000 in
theorem iLines_any (a : Option Addr) (cap : Nat) (ls : List Ln) (z : Bool) (w : World) (hl : ls.length ≤ 1048576) (ht : TextsP ls) (h : Lns w a ls) (hz : z = true ↔ linesP ls) :
    Calls Try.prog 16 #[.slice a ls.length cap] w fun e w' => e = .returned (.bool z) ∧ Ext w w' := by
  obtain ⟨n, hn⟩ : ∃ n, n = ls.length := ⟨_, rfl⟩
  have HA : Hid (Lns w a ls ∧ n = ls.length ∧ TextsP ls ∧ (z = true ↔ (1 ≤ n ∧ n ≤ 600) ∧ (ls.getD (n - 1) zeroL).wd.1 = 8 ∧ oncePto ls n ∧ ∀ i, i < n → fitsP (ls.getD i zeroL) ∧ leadP ls i (ls.getD i zeroL))) := ⟨h, hn, ht, by rw [hn]; exact hz.trans (lines_once ls)⟩
  rw [← hn]
  have hl' : n ≤ 1048576 := by omega
  clear h hn hl ht hz
  by_cases h1 : (n : Int) < 1
  · have HN : Hid (z = false) := bool_not HA.out.2.2.2 fun h => by omega
    go_enter Try.func16, Try.ntmps16
    go_wp2
    go_ret
    exact ⟨by rw [HN.out]; rfl, Ext.refl _⟩
  by_cases h6 : 600 < (n : Int)
  · have HN : Hid (z = false) := bool_not HA.out.2.2.2 fun h => by omega
    go_enter Try.func16, Try.ntmps16
    go_wp2
    go_ret
    exact ⟨by rw [HN.out]; rfl, Ext.refl _⟩
  obtain ⟨m, rfl⟩ : ∃ m, n = m + 1 := ⟨n - 1, by omega⟩
  have em : ((m + 1 : Nat) : Int) - 1 = (m : Int) := by omega
  obtain ⟨⟨lab, ⟨o, kk, y, nn⟩, yes, no⟩, hp⟩ : ∃ p, p = ls.getD m zeroL := ⟨_, rfl⟩
  obtain ⟨b, off, rfl, hq⟩ := HA.out.1.hept (k := m) (by have := HA.out.2.1; omega) hp
  have c1 := hq.2.1
  simp only at c1
  have HP : Hid (Ln.mk lab (o, kk, y, nn) yes no = ls.getD m zeroL) := hp
  clear hp hq
  by_cases h8 : o = 8
  · subst h8
    obtain ⟨v, hv⟩ := bool_some (oncePto ls ls.length)
    have HPL : Hid (Calls Try.prog 46 #[.slice (some ⟨b, off, none⟩) (m + 1) cap] w fun e w' => ∃ B, e = .returned (.tuple #[mapV v B, .bool v]) ∧ Ext w w' ∧ (v = true → w.heap.size ≤ B ∧ MapOf w' B (m + 1) (upTo ls (m + 1)))) := by
      have := places_any (some ⟨b, off, none⟩) cap ls v w (by have := HA.out.2.1; omega) HA.out.2.2.1 HA.out.1 hv
      rw [← HA.out.2.1] at this
      exact this
    have HV : Hid (v = true ↔ oncePto ls (m + 1)) := by rw [HA.out.2.1]; exact hv
    clear hv
    cases v with
    | false =>
      have HN : Hid (z = false) := bool_not HA.out.2.2.2 fun h => by have := HV.out.2 h.2.2.1; cases this
      go_enter Try.func16, Try.ntmps16
      go_wp2_with fail
      refine HPL.out.mono ?_
      rintro e w1 ⟨B, rfl, e1, hB⟩
      go_wp2
      go_ret
      exact ⟨by rw [HN.out]; rfl, e1⟩
    | true =>
      have HO : Hid (oncePto ls (m + 1)) := HV.out.1 rfl
      go_enter Try.func16, Try.ntmps16
      go_wp2_with fail
      refine HPL.out.mono ?_
      rintro e w1 ⟨B, rfl, e1, hB⟩
      obtain ⟨hB1, m1⟩ := hB trivial
      simp only [mapV, if_true]
      have HB : Hid (w.heap.size ≤ B) := hB1
      have b1 : Below w.heap.size w w1 := e1
      clear HPL HV hB hB1 e1 c1
      go_wp2_with fail
      go_loopw [35] (fun i wr => ∃ k : Nat, i = .int .i64 k ∧ k ≤ m + 1 ∧ Hid (Below w.heap.size w wr ∧ ∀ j, j < k → fitsP (ls.getD j zeroL) ∧ leadP ls j (ls.getD j zeroL)) ∧ ∃ M, MapOf wr B (m + 1) M ∧ Hid (BehM ls k M)) (fun i _ => m + 1 - (intOf i).toNat)
      case atStart => exact ⟨0, rfl, by omega, ⟨b1, fun j hj => by omega⟩, _, m1, by have := behM_start ls; rw [← HA.out.2.1] at this; exact this⟩
      case round =>
        obtain ⟨k, rfl, hk, HR, M, hm, HM⟩ := hrel
        clear b1 m1
        by_cases hlt : k < m + 1
        · have bk : (k : Int) < ((m + 1 : Nat) : Int) := by omega
          obtain ⟨⟨lab', ⟨o', kk', y', nn'⟩, yes', no'⟩, hp⟩ : ∃ p, p = ls.getD k zeroL := ⟨_, rfl⟩
          obtain ⟨b', off', ha, hq⟩ := (HA.out.1.below HR.out.1 (Nat.le_refl _)).hept (k := k) (by have := HA.out.2.1; omega) hp
          injection ha with ha
          injection ha with ha1 ha2
          subst ha1
          subst ha2
          obtain ⟨c0, c1, c2, c3, c4, c5, c6⟩ := hq
          simp only at c0 c1 c2 c3 c4 c5 c6
          have HT : Hid (lab'.size ≤ 1048576 ∧ yes'.size ≤ 1048576 ∧ no'.size ≤ 1048576) := by have := HA.out.2.2.1 k (by have := HA.out.2.1; omega); rw [← hp] at this; exact this
          have HQ : Hid (Ln.mk lab' (o', kk', y', nn') yes' no' = ls.getD k zeroL) := hp
          clear hp
          obtain ⟨f, hf⟩ := bool_some (fitsP ⟨lab', (o', kk', y', nn'), yes', no'⟩)
          obtain ⟨g, hg⟩ := bool_some (leadM M ⟨lab', (o', kk', y', nn'), yes', no'⟩)
          have HG : Hid (∀ w, MapOf w B (m + 1) M → Calls Try.prog 48 #[.agg #[.string lab', .int .i64 o', .int .i64 kk', .int .i64 y', .int .i64 nn', .string yes', .string no'], .map (some B)] w fun e w' => e = .returned (.bool g) ∧ Ext w w') := fun w hm => lead_line ⟨lab', (o', kk', y', nn'), yes', no'⟩ B (m + 1) M g w hm HT.out.2.1 HT.out.2.2 hg
          have HG2 : Hid ((f = true ↔ fitsP (ls.getD k zeroL)) ∧ (g = true ↔ leadP ls k (ls.getD k zeroL))) := ⟨by rw [← HQ.out]; exact hf, by rw [← HQ.out, ← leadM_beh HM.out]; exact hg⟩
          have HD : Hid (∀ {w2 : World}, Ext (wr.alloc (.cells #[.string lab', .int .i64 o', .int .i64 kk', .int .i64 y', .int .i64 nn', .string yes', .string no'] 37)) w2 → Hept w2 wr.heap.size 0 ⟨lab', (o', kk', y', nn'), yes', no'⟩) := fun e => (hept_box wr ⟨lab', (o', kk', y', nn'), yes', no'⟩ 37).ext e
          have hFF : Hid (∀ w, Calls Try.prog 47 #[.agg #[.string lab', .int .i64 o', .int .i64 kk', .int .i64 y', .int .i64 nn', .string yes', .string no']] w fun e w' => e = .returned (.bool f) ∧ Ext w w') := fun w => fits_line ⟨lab', (o', kk', y', nn'), yes', no'⟩ f w hf
          have mE : Hid (MapOf (wr.alloc (.cells #[.string lab', .int .i64 o', .int .i64 kk', .int .i64 y', .int .i64 nn', .string yes', .string no'] 37)) B (m + 1) M) := hm.below (Below.alloc (Below.refl _ wr) (Nat.le_refl _) _) hm.lt
          have BE : Hid (Below w.heap.size w (wr.alloc (.cells #[.string lab', .int .i64 o', .int .i64 kk', .int .i64 y', .int .i64 nn', .string yes', .string no'] 37))) := HR.out.1.alloc HR.out.1.size _
          clear hf hg hm
          go_wp2_with fail
          refine (hFF.out _).mono ?_
          rintro e w2 ⟨rfl, e2⟩
          obtain ⟨d0, d1, d2, d3, d4, d5, d6⟩ := HD.out e2
          simp only [Nat.zero_add] at d0 d1 d2 d3 d4 d5 d6
          have M2 : Hid (MapOf w2 B (m + 1) M) := mE.out.ext e2
          have B2 : Hid (Below w.heap.size w w2) := BE.out.trans (Below.mono e2 BE.out.size)
          have E2 : Hid (Ext _ w2) := e2
          clear c0 c1 c2 c3 c4 c5 c6 e2 mE BE hFF
          cases f with
          | false =>
            have HN : Hid (z = false) := bool_not HA.out.2.2.2 fun h => by have := HG2.out.1.2 (h.2.2.2 k hlt).1; cases this
            go_wp2
            go_ret
            exact ⟨by rw [HN.out]; rfl, B2.out⟩
          | true =>
            go_wp2_with fail
            refine (HG.out _ M2.out).mono ?_
            rintro e w3 ⟨rfl, e3⟩
            have e23 := E2.out.trans e3
            obtain ⟨f0, f1, f2, f3, f4, f5, f6⟩ := HD.out e23
            simp only [Nat.zero_add] at f0 f1 f2 f3 f4 f5 f6
            have M3 : Hid (MapOf w3 B (m + 1) M) := M2.out.ext e3
            have B3 : Hid (Below w.heap.size w w3) := B2.out.trans (Below.mono e3 B2.out.size)
            have E3 : Hid (Ext _ w3) := e23
            clear d0 d1 d2 d3 d4 d5 d6 e23 e3 M2 B2 E2 HG
            cases g with
            | false =>
              have HN : Hid (z = false) := bool_not HA.out.2.2.2 fun h => by have := HG2.out.2.2 (h.2.2.2 k hlt).2; cases this
              go_wp2
              go_ret
              exact ⟨by rw [HN.out]; rfl, B3.out⟩
            | true =>
              go_wp2_with fail
              refine (iPlace_any ⟨lab', (o', kk', y', nn'), yes', no'⟩ _).mono ?_
              rintro e w4 ⟨rfl, e4⟩
              have e34 := E3.out.trans e4
              obtain ⟨d0, d1, d2, d3, d4, d5, d6⟩ := HD.out e34
              simp only [Nat.zero_add] at d0 d1 d2 d3 d4 d5 d6
              have m4 : MapOf w4 B (m + 1) M := M3.out.ext e4
              have B4 : Hid (Below w.heap.size w w4) := B3.out.trans (Below.mono e4 B3.out.size)
              clear f0 f1 f2 f3 f4 f5 f6 e34 e4 M3 B3 E3 HD
              have HK : Hid (∀ j, j < k + 1 → fitsP (ls.getD j zeroL) ∧ leadP ls j (ls.getD j zeroL)) := fun j hj => by
                rcases Nat.lt_or_ge j k with h | h
                · exact HR.out.2 j h
                · obtain rfl : j = k := by omega
                  exact ⟨HG2.out.1.1 (by simp), HG2.out.2.1 (by simp)⟩
              by_cases h0 : o' = 0
              · subst h0
                go_wp2_with (first | (at_delete; refine wpList_del_map _ rfl _ _ rfl B (m + 1) M rfl m4 lab' rfl (by have := HT.out.1; unfold maxLen; omega) ?_; intro w5 m5 t5) | go_in)
                go_roundw
                case rel =>
                  refine ⟨k + 1, by go_num, by omega, ⟨mapTurned_below B4.out t5 HB.out (Nat.le_refl _), HK.out⟩, _, m5, ?_⟩
                  have := behM_strike HM.out (by have := HA.out.2.1; omega) (by rw [← HQ.out]) (by rw [← HA.out.2.1]; exact HO.out)
                  rw [← HQ.out] at this
                  exact this
                case measure => simp [intOf]; omega
              · have q0 : (o' == 0) = false := by simpa using h0
                have H0 : Hid (o' ≠ 0) := h0
                clear h0
                go_wp2
                go_roundw
                case rel => exact ⟨k + 1, by go_num, by omega, ⟨B4.out, HK.out⟩, _, m4, behM_pass HM.out (by rw [← HQ.out]; exact H0.out)⟩
                case measure => simp [intOf]; omega
        · have hkn : k = m + 1 := by omega
          have bk : ¬ ((k : Int) < ((m + 1 : Nat) : Int)) := by omega
          have HN : Hid (z = true) := HA.out.2.2.2.2 ⟨by omega, by rw [Nat.add_sub_cancel, ← HP.out], HO.out, fun i hi => HR.out.2 i (by omega)⟩
          clear hm hkn
          go_wp2
          go_ret
          exact ⟨by rw [HN.out]; rfl, HR.out.1⟩
  · have q8 : (o != 8) = true := by simpa using h8
    have HN : Hid (z = false) := bool_not HA.out.2.2.2 fun h => h8 (by have := h.2.1; rw [Nat.add_sub_cancel, ← HP.out] at this; exact this)
    go_enter Try.func16, Try.ntmps16
    go_wp2
    go_ret
    exact ⟨by rw [HN.out]; rfl, Ext.refl _⟩

end Go.Proofs.Ytakcmiijnckaaaa
