/- What spec's SignText answers; the laws' szSignS, toSignS over rows of signs; a law's row of signs opened. -/
import Derived.Test.YtfhkafbcopolcaaDoorSignTx
import Derived.Deep.Strs
import Derived.Deep.SlicePairs
import Derived.ProofKit
import Derived.OpenShut
import Derived.Lib.SmallJoins
namespace Go.Proofs.YtfhkafbcopolcaaDoor
open Go.RowKit
set_option linter.unusedVariables false

theorem add_txt {P : Program} (wx : World) (a b : List UInt8) (h : a.length + b.length ≤ 9223372036854775807) :
    (Op.stringOp .add (txt a) (txt b)).run P wx = .ok (.string (txt (a ++ b))) wx := by
  unfold txt
  rw [run_string_add_sum wx _ _ (by simp [ByteArray.size]; omega), ByteArray.mk_append_mk]

set_option maxRecDepth 100000 in
set_option maxHeartbeats 2000000 in
theorem sText_any (a : Option Addr) (cap : Nat) (ps : List Sg) (w : World) (hl : ps.length ≤ 1048576) (h : Signs w a ps) (hB : ∀ k, k ≤ ps.length → (textN ps k).length ≤ 100000000) (hN : ∀ p ∈ ps, p.2.2 ≤ 9223372036854775807) :
    Calls Tryd.prog 18 #[.slice a ps.length cap] w fun e w' => e = .returned (.string (txt (textN ps ps.length))) ∧ Ext w w' := by
  obtain ⟨n, hn⟩ : ∃ n, n = ps.length := ⟨_, rfl⟩
  have HA : Hid (Signs w a ps ∧ n = ps.length ∧ (∀ k, k ≤ n → (textN ps k).length ≤ 100000000) ∧ (∀ p ∈ ps, p.2.2 ≤ 9223372036854775807)) := ⟨h, hn, by rw [hn]; exact hB, hN⟩
  rw [← hn]
  have hl' : n ≤ 1048576 := by omega
  clear h hn hl hB hN
  go_enter Tryd.func18, Tryd.ntmps18
  go_wp2_with fail
  go_loopw [3, 4] (fun v i wr => ∃ (k : Nat) (S : ByteArray), i = .int .i64 k ∧ v = .string S ∧ k ≤ n ∧ Hid (S = txt (textN ps k)) ∧ Ext w wr) (fun _ i _ => n - (intOf i).toNat)
  case atStart => exact ⟨0, _, rfl, rfl, by omega, rfl, Ext.refl _⟩
  case round =>
    obtain ⟨k, S, rfl, rfl, hk, HL, hE⟩ := hrel
    by_cases hlt : k < n
    · have bk : (k : Int) < (n : Int) := by omega
      obtain ⟨⟨kd, tl, nm⟩, hp⟩ : ∃ p, p = ps.getD k zeroG := ⟨_, rfl⟩
      have hkp : k < ps.length := by have := HA.out.2.1; omega
      obtain ⟨b1, o1, rfl, p1⟩ := (HA.out.1.ext hE).tri (k := k) hkp
      rw [← hp] at p1
      simp only at p1
      have hnm : nm ≤ 9223372036854775807 := by
        have := HA.out.2.2.2 (ps.getD k zeroG) (by rw [List.getD_eq_getElem?_getD, List.getElem?_eq_getElem hkp]; exact List.getElem_mem hkp)
        rw [← hp] at this
        exact this
      obtain ⟨T, hT⟩ : ∃ T, T = txt tl := ⟨_, rfl⟩
      rw [← hT] at p1
      obtain ⟨u, hu⟩ : ∃ u, u = txL (kd, tl, nm) := ⟨_, rfl⟩
      obtain ⟨l, hll⟩ : ∃ l, l = (textN ps k ++ (if k = 0 then [] else [32])) := ⟨_, rfl⟩
      have hM : textN ps (k + 1) = l ++ u := by rw [textN_succ, hll]; unfold moreL; rw [← hp, hu]; simp
      have hX : l.length + u.length ≤ 100000000 := by
        have h1 := HA.out.2.2.1 (k + 1) (by omega)
        rw [hM, List.length_append] at h1
        exact h1
      obtain ⟨S1, hS1⟩ : ∃ S1, S1 = txt l := ⟨_, rfl⟩
      obtain ⟨S2, hS2⟩ : ∃ S2, S2 = txt (l ++ u) := ⟨_, rfl⟩
      obtain ⟨U, hU⟩ : ∃ U, U = txt u := ⟨_, rfl⟩
      have hadd2 : ∀ wx, (Op.stringOp .add S1 U).run Tryd.prog wx = .ok (.string S2) wx := fun wx => by rw [hS1, hU, hS2]; exact add_txt wx l u (by omega)
      have HN : Hid (S2 = txt (textN ps (k + 1))) := by unfold Hid; rw [hS2, hM]
      have hadd1 : ∀ wx, ¬ k = 0 → (Op.stringOp .add S ⟨#[32]⟩).run Tryd.prog wx = .ok (.string S1) wx := fun wx h0 => by
        have h1 := HA.out.2.2.1 k (by omega)
        rw [HL.out, hS1, hll, if_neg h0]
        exact add_txt wx (textN ps k) [32] (by simp; omega)
      have hs0 : k = 0 → S = S1 := fun h0 => by rw [HL.out, hS1, hll, if_pos h0]; simp
      have HT : Hid (kd ≠ 2 → T = U) := fun h2 => by rw [hT, hU, hu]; unfold txL; rw [if_neg h2]
      have HF : Hid (kd = 2 → ∀ w : World, Calls Tryd.prog 36 #[.int .i64 nm] w fun e w' => e = .returned (.string U) ∧ Ext w w') := fun h2 w => by
        rw [hU, hu]
        unfold txL
        rw [if_pos h2]
        exact figures_any nm w hnm
      have HE : Hid (Ext w wr) := hE
      obtain ⟨c0, c1, c2⟩ := p1
      clear hp hT hu hll hM hX hS1 hS2 hU hE HL
      by_cases hk0 : k = 0
      · have hss := hs0 hk0
        subst hss
        have dk0 : decide (0 < k) = false := by simp; omega
        clear hs0 hk0 hadd1
        by_cases h2 : kd = 2
        · have HF' := HF.out h2
          have HFF : Hid (∀ w : World, Calls Tryd.prog 36 #[.int .i64 nm] w fun e w' => e = .returned (.string U) ∧ Ext w w') := HF'
          subst h2
          clear HF HF' HT
          go_wp2_with (go_at_call 36; refine (HFF.out _).mono ?_; rintro e w2 ⟨rfl, e2⟩)
          go_roundw
          case rel => exact ⟨k + 1, S2, by go_num, rfl, by omega, HN, HE.out.trans e2⟩
          case measure => simp [intOf]; omega
        · have hTU := HT.out h2
          subst hTU
          have d2 : (kd == 2) = false := by simpa using h2
          clear HF HT h2
          go_wp2
          go_roundw
          case rel => exact ⟨k + 1, S2, by go_num, rfl, by omega, HN, HE.out⟩
          case measure => simp [intOf]; omega
      · have hadd0 : ∀ wx, (Op.stringOp .add S ⟨#[32]⟩).run Tryd.prog wx = .ok (.string S1) wx := fun wx => hadd1 wx hk0
        have dk0 : decide (0 < k) = true := by simp; omega
        clear hs0 hk0 hadd1
        by_cases h2 : kd = 2
        · have HF' := HF.out h2
          have HFF : Hid (∀ w : World, Calls Tryd.prog 36 #[.int .i64 nm] w fun e w' => e = .returned (.string U) ∧ Ext w w') := HF'
          subst h2
          clear HF HF' HT
          go_wp2_with (go_at_call 36; refine (HFF.out _).mono ?_; rintro e w2 ⟨rfl, e2⟩)
          go_roundw
          case rel => exact ⟨k + 1, S2, by go_num, rfl, by omega, HN, HE.out.trans e2⟩
          case measure => simp [intOf]; omega
        · have hTU := HT.out h2
          subst hTU
          have d2 : (kd == 2) = false := by simpa using h2
          clear HF HT h2
          go_wp2
          go_roundw
          case rel => exact ⟨k + 1, S2, by go_num, rfl, by omega, HN, HE.out⟩
          case measure => simp [intOf]; omega
    · have bk : ¬ ((k : Int) < (n : Int)) := by omega
      have hkn : k = n := by omega
      have HF : Hid (S = txt (textN ps n)) := by rw [HL.out, hkn]; rfl
      clear hkn HL
      go_wp2
      go_ret
      exact ⟨by rw [← HF.out]; rfl, hE⟩

end Go.Proofs.YtfhkafbcopolcaaDoor
