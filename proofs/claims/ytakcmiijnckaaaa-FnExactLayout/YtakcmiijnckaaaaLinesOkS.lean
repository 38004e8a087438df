/- What spec's LinesOk answers: whether lines are right. -/
import Derived.Test.YtakcmiijnckaaaaLinesS
namespace Go.Proofs.Ytakcmiijnckaaaa
open Go.RowKit
set_option linter.unusedVariables false

set_option maxRecDepth 100000 in
set_option maxHeartbeats 4000000 in
theorem sLines_any (a : Option Addr) (cap : Nat) (ls : List Ln) (z : Bool) (w : World) (hl : ls.length ≤ 1048576) (h : Lns w a ls) (hz : z = true ↔ linesP ls) :
    Calls Try.prog 21 #[.slice a ls.length cap] w fun e w' => e = .returned (.bool z) ∧ Ext w w' := by
  obtain ⟨n, hn⟩ : ∃ n, n = ls.length := ⟨_, rfl⟩
  have HA : Hid (Lns w a ls ∧ n = ls.length ∧ (z = true ↔ (1 ≤ n ∧ n ≤ 600) ∧ (ls.getD (n - 1) zeroL).wd.1 = 8 ∧ ∀ i, i < n → lineP ls i (ls.getD i zeroL))) := ⟨h, hn, by rw [hn]; exact hz⟩
  rw [← hn]
  have hl' : n ≤ 1048576 := by omega
  clear h hn hl hz
  cases hf : inB n 1 600
  · have HN : Hid (z = false) := bool_not HA.out.2.2 fun h => by rw [inB_false] at hf; omega
    go_enter Try.func21, Try.ntmps21
    go_wp2_with (go_at_call 41; refine (in_any _ _ _ _).mono ?_; rintro e w' ⟨rfl, rfl⟩)
    go_ret
    exact ⟨by rw [HN.out]; rfl, Ext.refl _⟩
  obtain ⟨m, rfl⟩ : ∃ m, n = m + 1 := ⟨n - 1, by rw [inB_true] at hf; omega⟩
  have hm6 : m + 1 ≤ 600 := by rw [inB_true] at hf; omega
  have em : ((m + 1 : Nat) : Int) - 1 = (m : Int) := by omega
  obtain ⟨⟨lab, ⟨o, kk, y, nn⟩, yes, no⟩, hp⟩ : ∃ p, p = ls.getD m zeroL := ⟨_, rfl⟩
  obtain ⟨b, off, rfl, hq⟩ := HA.out.1.hept (k := m) (by have := HA.out.2.1; omega) hp
  have c1 := hq.2.1
  simp only at c1
  have HP : Hid (Ln.mk lab (o, kk, y, nn) yes no = ls.getD m zeroL) := hp
  clear hp hq
  by_cases h8 : o = 8
  · subst h8
    have HL : Hid (∀ (i : Nat) (v : Bool) (w' : World), i < m + 1 → Ext w w' → (v = true ↔ lineP ls i (ls.getD i zeroL)) → Calls Try.prog 54 #[.slice (some ⟨b, off, none⟩) (m + 1) cap, .int .i64 (i : Int)] w' fun e w'' => e = .returned (.bool v) ∧ Ext w' w'') := fun i v w' hi he hv => by
      have := sLine_any (some ⟨b, off, none⟩) cap ls i v w' (by have := HA.out.2.1; omega) (HA.out.1.ext he) (by have := HA.out.2.1; omega) hv
      rw [← HA.out.2.1] at this
      exact this
    go_enter Try.func21, Try.ntmps21
    go_wp2_with (go_at_call 41; refine (in_any _ _ _ _).mono ?_; rintro e w' ⟨rfl, rfl⟩)
    go_loopw [3] (fun i wr => ∃ k : Nat, i = .int .i64 k ∧ k ≤ m + 1 ∧ Hid (Ext w wr ∧ ∀ j, j < k → lineP ls j (ls.getD j zeroL))) (fun i _ => m + 1 - (intOf i).toNat)
    case atStart => exact ⟨0, rfl, by omega, Ext.refl _, fun j hj => by omega⟩
    case round =>
      obtain ⟨k, rfl, hk, HR⟩ := hrel
      clear c1
      by_cases hlt : k < m + 1
      · have bk : (k : Int) < ((m + 1 : Nat) : Int) := by omega
        obtain ⟨v, hv⟩ := bool_some (lineP ls k (ls.getD k zeroL))
        have HV : Hid (v = true ↔ lineP ls k (ls.getD k zeroL)) := hv
        clear hv
        go_wp2_with fail
        refine (HL.out k v _ hlt HR.out.1 HV.out).mono ?_
        rintro e w2 ⟨rfl, e2⟩
        have E2 : Hid (Ext w w2) := HR.out.1.trans e2
        clear e2
        cases v with
        | false =>
          have HN : Hid (z = false) := bool_not HA.out.2.2 fun h => by have := HV.out.2 (h.2.2 k hlt); cases this
          go_wp2
          go_ret
          exact ⟨by rw [HN.out]; rfl, E2.out⟩
        | true =>
          have HK : Hid (∀ j, j < k + 1 → lineP ls j (ls.getD j zeroL)) := fun j hj => by
            rcases Nat.lt_or_ge j k with h | h
            · exact HR.out.2 j h
            · obtain rfl : j = k := by omega
              exact HV.out.1 rfl
          go_wp2
          go_roundw
          case rel => exact ⟨k + 1, by go_num, by omega, E2.out, HK.out⟩
          case measure => simp [intOf]; omega
      · have hkn : k = m + 1 := by omega
        have bk : ¬ ((k : Int) < ((m + 1 : Nat) : Int)) := by omega
        have HN : Hid (z = true) := HA.out.2.2.2 ⟨by omega, by rw [Nat.add_sub_cancel, ← HP.out], fun i hi => HR.out.2 i (by omega)⟩
        clear hkn
        go_wp2
        go_ret
        exact ⟨by rw [HN.out]; rfl, HR.out.1⟩
  · have q8 : (o != 8) = true := by simpa using h8
    have HN : Hid (z = false) := bool_not HA.out.2.2 fun h => h8 (by have := h.2.1; rw [Nat.add_sub_cancel, ← HP.out] at this; exact this)
    clear h8
    go_enter Try.func21, Try.ntmps21
    go_wp2_with (go_at_call 41; refine (in_any _ _ _ _).mono ?_; rintro e w' ⟨rfl, rfl⟩)
    go_ret
    exact ⟨by rw [HN.out]; rfl, Ext.refl _⟩

end Go.Proofs.Ytakcmiijnckaaaa
