/- What impl's and spec's SignText answer of every row of signs: their texts, with a blank between. -/
import Derived.Test.YtojaohdmfahpmaaGreatDoorSignSl
import Derived.Test.YtojaohdmfahpmaaGreatDoorDecI
import Derived.Test.YtojaohdmfahpmaaGreatDoorInfoB
import Derived.Lib.AppendStr
import Derived.Test.YtojaohdmfahpmaaGreatDoorDecLib
import Derived.Laws.Concat
namespace Go.Proofs.YtojaohdmfahpmaaGreatDoor
open Go.RowKit
set_option linter.unusedVariables false

/-- A sign's text. -/
def txL (p : Sg) : List UInt8 := if p.1 = 2 then decS p.2.2.toNat else p.2.1

/-- The texts of the first k signs. -/
def textN (ps : List Sg) : Nat → List UInt8
  | 0 => []
  | k + 1 => textN ps k ++ ((if k = 0 then [] else [32]) ++ txL (ps.getD k zeroG))

theorem decS_len (n : Nat) (h : n < 10 ^ 19) : (decS n).length ≤ 19 := by
  unfold decS
  split
  · simp
  · have key : ∀ k n : Nat, n < 10 ^ k → (dec n).length ≤ k := by
      intro k
      induction k with
      | zero => intro n h; obtain rfl : n = 0 := by simpa using h
                simp [dec_zero]
      | succ k ih =>
        intro n h
        by_cases h0 : n = 0
        · subst h0; simp [dec_zero]
        · rw [dec_pos n (by omega)]
          have := ih (n / 10) (by rw [Nat.pow_succ] at h; omega)
          simp
          omega
    exact key 19 n h

theorem dec_step (n : Nat) (h : 9 < n) : decS n = decS (n / 10) ++ [hexD (n % 10)] := by
  unfold decS
  rw [if_neg (by omega), if_neg (by omega), dec_pos n (by omega)]

theorem decS_one (n : Nat) (h : n ≤ 9) : decS n = [hexD n] := by
  unfold decS
  by_cases h0 : n = 0
  · subst h0; rfl
  · rw [if_neg h0, dec_pos n (by omega), show n / 10 = 0 by omega, dec_zero, show n % 10 = n by omega]; rfl

set_option maxRecDepth 100000 in
set_option maxHeartbeats 1000000 in
theorem figures_nat (n0 : Nat) (w : World) (hn : n0 ≤ 9223372036854775807) :
    Calls Tryz.prog 40 #[.int .i64 (n0 : Int)] w fun e w' => e = .returned (.string (txt (decS n0))) ∧ Ext w w' := by
  have h20 : (decS n0).length ≤ 19 := decS_len n0 (by have : (10 : Nat) ^ 19 = 10000000000000000000 := by decide
                                                      omega)
  have H20 : Hid ((decS n0).length ≤ 19) := h20
  clear h20
  have d0 : decide ((n0 : Int) < 0) = false := by simp
  go_enter Tryz.func40, Tryz.ntmps40
  go_wp2
  go_loopw [0, 3] (fun n s wr => ∃ (m : Nat) (l : List UInt8), n = .int .i64 m ∧ s = .string (txt l) ∧ m ≤ n0 ∧ Hid (decS n0 = decS m ++ l) ∧ Ext w wr)
    (fun n _ _ => (intOf n).toNat)
  case atStart => exact ⟨n0, [], rfl, rfl, by omega, by simp [Hid], Ext.refl _⟩
  case round =>
    obtain ⟨m, l, rfl, rfl, hm, hD, hb⟩ := hrel
    have hl : l.length ≤ 19 := by have h1 := congrArg List.length hD.out; have := H20.out; simp at h1; omega
    unfold txt
    by_cases h : 9 < m
    · have hmi : (9 : Int) < (m : Int) := by omega
      obtain ⟨b, hbb⟩ : ∃ b, b = hexD (m % 10) := ⟨_, rfl⟩
      have hD' : Hid (decS n0 = decS (m / 10) ++ (b :: l)) := by unfold Hid; rw [hD.out, dec_step m h, hbb]; simp
      have hcv := conv_one wr (48 + (m : Int) % 10) b (by rw [hbb, hexD_toNat _ (by omega)]; unfold hexN; rw [if_pos (by omega)]; omega)
      have hadd := fun wx => add_cons (P := Tryz.prog) wx b l (by omega)
      clear hbb hD
      go_wp2
      go_roundw
      case rel => exact ⟨m / 10, b :: l, by go_num, rfl, by omega, hD', hb.alloc _⟩
      case measure => simp [intOf]; omega
    · have hmi : ¬ (9 : Int) < (m : Int) := by omega
      obtain ⟨b, hbb⟩ : ∃ b, b = hexD m := ⟨_, rfl⟩
      have HF : Hid (decS n0 = b :: l) := by unfold Hid; rw [hD.out, decS_one m (by omega), hbb]; rfl
      have hcv := conv_one wr (48 + (m : Int)) b (by rw [hbb, hexD_toNat _ (by omega)]; unfold hexN; rw [if_pos (by omega)]; omega)
      have hadd := fun wx => add_cons (P := Tryz.prog) wx b l (by omega)
      clear hbb hD
      go_wp2
      go_ret
      exact ⟨by rw [HF.out]; rfl, hb.alloc _⟩

theorem figures_neg (n : Int) (w : World) (hn : n < 0) :
    Calls Tryz.prog 40 #[.int .i64 n] w fun e w' => e = .returned (.string (txt (decS 0))) ∧ Ext w w' := by
  have hcv := conv_one w 48 48 rfl
  have hadd := fun wx => add_cons (P := Tryz.prog) wx 48 [] (by simp)
  go_enter Tryz.func40, Tryz.ntmps40
  go_wp2
  refine wp_loop_rounds 1 ?_
  rw [rounds_succ]
  go_wp2
  go_ret
  exact ⟨rfl, Ext.one _ _⟩

theorem figures_any (n : Int) (w : World) (h1 : n ≤ 9223372036854775807) :
    Calls Tryz.prog 40 #[.int .i64 n] w fun e w' => e = .returned (.string (txt (decS n.toNat))) ∧ Ext w w' := by
  by_cases h : n < 0
  · rw [show n.toNat = 0 by omega]
    exact figures_neg n w h
  · obtain ⟨m, rfl⟩ : ∃ m : Nat, n = (m : Int) := ⟨n.toNat, by omega⟩
    have := figures_nat m w (by omega)
    simpa using this

theorem gTab8 : Tryz.prog.globalNamed "internal/strconv.uint64pow10" = some 1 := by kernel_rfl

/-- The library's table of powers holds what its text lays. -/
def Pow (w : World) : Prop := Lib.TabIs Tryz.prog w "internal/strconv.uint64pow10" .u64 Lib.pow10Tab ∧ 1 < w.heap.size

theorem Pow.ext {w w' : World} (h : Pow w) (hE : Ext w w') : Pow w' := ⟨var?_below hE gTab8 h.2 h.1, Nat.lt_of_lt_of_le h.2 hE.size⟩

theorem itoa_nat (m : Nat) : Lib.itoa (m : Int) = decS m := by
  rw [decS_digits m m (Nat.le_refl _)]
  unfold Lib.itoa
  rw [if_neg (by omega)]
  simp

theorem dec_nat (m : Nat) (w : World) (h1 : m ≤ 9223372036854775807) (hP : Pow w) : Calls Tryz.prog 23 #[.int .i64 (m : Int)] w fun e w' => e = .returned (.string (txt (decS m))) ∧ Ext w w' := by
  have := iDec_any (m : Int) w (by omega) (by omega) hP.1
  rw [itoa_nat] at this
  exact this

theorem strCells_T (l : List UInt8) : Lib.strCells (txt l) = bytesV l := by
  unfold Lib.strCells bytesV txt
  first | rfl | simp

/-- What one more sign adds. -/
def moreL (ps : List Sg) (k : Nat) : List UInt8 := (if k = 0 then [] else [32]) ++ txL (ps.getD k zeroG)

theorem textN_succ (ps : List Sg) (k : Nat) : textN ps (k + 1) = textN ps k ++ moreL ps k := rfl

end Go.Proofs.YtojaohdmfahpmaaGreatDoor
