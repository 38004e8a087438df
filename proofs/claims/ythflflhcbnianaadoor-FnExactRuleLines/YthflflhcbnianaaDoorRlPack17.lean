/- What the laws' own helper markText answers. -/
import Derived.Test.YthflflhcbnianaaDoorRlPack6
import Derived.Test.YthflflhcbnianaaDoorRlPack8
import Derived.WalkKit
import Derived.WalkSpells
import Derived.WalkSmall
import Derived.BigQuiet
import Derived.Deep.QuietTactic
import Derived.Deep.RegionHeld3
import Derived.LoopN
namespace Go.Proofs.YthflflhcbnianaaDoor
open Go.RowKit
set_option linter.unusedVariables false

def markB (k : Nat) : ByteArray := ⟨(109 :: dec k).toArray⟩

set_option maxRecDepth 100000 in
set_option maxHeartbeats 1000000 in
theorem markT_any (n0 : Nat) (w : World) (h0 : 0 < n0) (hn : n0 ≤ 1000000000) :
    Calls Tryd.prog 64 #[.int .i64 n0] w fun e w' => e = .returned (.string (markB n0)) ∧ Below w.heap.size w w' := by
  go_enter Tryd.func64, Tryd.ntmps64
  go_wp2
  go_loopw [0, 3] (fun n s wr => ∃ (m : Nat) (l : List UInt8), n = .int .i64 m ∧ s = .string ⟨l.toArray⟩ ∧ l.length + m ≤ n0 ∧ Hid (dec n0 = dec m ++ l) ∧ Below w.heap.size w wr)
    (fun n _ _ => (intOf n).toNat)
  case atStart => exact ⟨n0, [], rfl, rfl, by simp, by simp [Hid], Below.refl _ _⟩
  case round =>
    obtain ⟨m, l, rfl, rfl, hm, hD, hb⟩ := hrel
    have hbs := hb.size
    by_cases h : m = 0
    · subst h
      have e : Hid (markB n0 = ⟨(109 :: l).toArray⟩) := by unfold Hid markB; rw [hD.out, dec_zero]; rfl
      have hadd := fun wx => add_cons (P := Tryd.prog) wx 109 l (by omega)
      go_wp2
      go_ret
      exact ⟨by rw [e.out]; rfl, hb⟩
    · have hmp : 0 < m := by omega
      obtain ⟨b, hbb⟩ : ∃ b, b = hexD (m % 10) := ⟨_, rfl⟩
      have hD' : Hid (dec n0 = dec (m / 10) ++ (b :: l)) := by unfold Hid; rw [hD.out, dec_pos m (by omega), hbb]; simp
      have hcv := conv_one wr (48 + (m : Int) % 10) b (by rw [hbb, hexD_toNat _ (by omega)]; unfold hexN; rw [if_pos (by omega)]; omega)
      have hadd := fun wx => add_cons (P := Tryd.prog) wx b l (by omega)
      clear hbb hD
      go_wp2
      go_roundw
      case rel => exact ⟨m / 10, b :: l, by go_num, rfl, by simp; omega, hD', hb.alloc hbs _⟩
      case measure => simp [intOf]; omega

end Go.Proofs.YthflflhcbnianaaDoor
