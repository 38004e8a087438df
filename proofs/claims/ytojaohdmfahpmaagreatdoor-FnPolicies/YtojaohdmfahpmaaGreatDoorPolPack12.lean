/- What impl.numberIn answers at every text of at most 14 figures and base in 1 .. 16. -/
import Derived.Test.YtojaohdmfahpmaaGreatDoorRows
import Derived.Test.YtojaohdmfahpmaaGreatDoorPolPack4
import Derived.WalkKit
import Derived.WalkSpells
import Derived.BigQuiet
import Derived.WalkSmall
import Derived.Deep.QuietTactic
import Derived.Deep.LoopGhost
import Derived.WalkMore
namespace Go.Proofs.YtojaohdmfahpmaaGreatDoor
open Go.RowKit
set_option linter.unusedVariables false

set_option maxRecDepth 100000 in
set_option maxHeartbeats 2000000 in
theorem numberIn_any (t : ByteArray) (base : Nat) (w : World) (ht : t.size ≤ 14) (h16 : base ≤ 16) :
    Calls Tryz.prog 124 #[.string t, .int .i64 (base : Int)] w fun e w' => e = .returned (numV (numF base t.data.toList 0)) ∧ Below w.heap.size w w' := by
  go_enter Tryz.func124, Tryz.ntmps124
  go_wp2
  go_step3
  go_wp2
  go_step3
  go_wp2
  go_loopg [6, 7] t.size (fun g n i wr => ∃ (k m : Nat), k + g = t.size ∧ i = .int .i64 k ∧ n = .int .i64 m ∧ Hid (NS base t.data.toList k m) ∧ Below w.heap.size w wr)
  case atStart => exact ⟨0, 0, by omega, rfl, rfl, NS.start _ _, Below.refl _ _⟩
  case round =>
    obtain ⟨k, m, hkg, rfl, rfl, hN, hb⟩ := hrel
    have hk : k ≤ t.size := by omega
    have hlen : t.data.toList.length = t.size := by simp
    cases gk with
    | zero =>
      have hge : ¬ ((k : Int) < (t.size : Int)) := by omega
      have e : Hid (numF base t.data.toList 0 = some m) := hN.out.done (by omega)
      clear hN hlen hkg
      go_wp2
      go_ret2
      exact ⟨by rw [e.out]; rfl, hb⟩
    | succ og =>
      have hlt : k < t.size := by omega
      have hlt' : (k : Int) < (t.size : Int) := by omega
      obtain ⟨hm, hp0, hp1⟩ := hN.out.bound (by omega) h16
      have HK : Hid (k + (og + 1) = t.size) := hkg
      clear hkg hlen
      go_wp2
      go_loopg [6, 8] base (fun g n d wx => ∃ (c : Nat), c + g = base ∧ d = .int .i64 c ∧ n = .int .i64 m ∧ Hid (∀ d', d' < c → ¬ t[k].toNat = (hexD d').toNat) ∧ Below w.heap.size w wx)
      case atStart => exact ⟨0, by omega, rfl, rfl, fun d' h => by omega, hb⟩
      case round =>
        obtain ⟨c, hcg, rfl, rfl, hF, hb2⟩ := hrel
        have hcb : c ≤ base := by omega
        cases gk with
        | zero =>
          have hge : ¬ ((c : Int) < (base : Int)) := by omega
          have e : Hid (numF base t.data.toList 0 = none) := hN.out.none (by simpa using hlt) h16 (fun d hd => hF.out d (by omega))
          clear hN hF hcg
          go_wp2
          try rw [Exit.noGoto_ret]
          go_ret2
          exact ⟨by rw [e.out]; rfl, hb2⟩
        | succ ig =>
          have hcl : (c : Int) < (base : Int) := by omega
          have hcn : c < base := by omega
          have c16 : c < 16 := by omega
          have c16' : (c : Int) < 16 := by omega
          have HC : Hid (c + (ig + 1) = base) := hcg
          clear hcg
          by_cases heq : t[k].toNat = (figs[c]'c16).toNat
          · have hq : ((t[k].toNat : Int) == ((figs[c]'c16).toNat : Int)) = true := by simp [heq]
            have hN' : Hid (NS base t.data.toList (k + 1) (m * base + c)) := hN.out.next (by simpa using hlt) h16 hcn (by rw [← figs_val c c16 c16]; exact heq)
            clear heq hN hF
            go_wp2
            go_quiet (fail)
            go_wp2
            go_roundg og
            case measure => omega
            case rel => exact ⟨k + 1, m * base + c, by have := HK.out; omega, by go_num, by go_num, hN', below_drewN hb2 _⟩
          · have hq : ((t[k].toNat : Int) == ((figs[c]'c16).toNat : Int)) = false := by simp; omega
            have hF' : Hid (∀ d', d' < c + 1 → ¬ t[k].toNat = (hexD d').toNat) := by
              intro d' hd'
              by_cases hdc : d' = c
              · subst hdc; rw [← figs_val d' c16 c16]; exact heq
              · exact hF.out d' (by omega)
            clear heq hF
            go_wp2
            go_quiet (fail)
            go_wp2
            go_roundg ig
            case measure => omega
            case rel => exact ⟨c + 1, by have := HC.out; omega, by go_num, rfl, hF', below_drewN hb2 _⟩
end Go.Proofs.YtojaohdmfahpmaaGreatDoor
