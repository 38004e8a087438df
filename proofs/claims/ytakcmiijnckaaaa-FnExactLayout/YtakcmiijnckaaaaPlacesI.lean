/- What impl's placesOf answers: the map of all places, or that a label stands twice. -/
import Derived.Test.YtakcmiijnckaaaaLinesA
namespace Go.Proofs.Ytakcmiijnckaaaa
open Go.RowKit Go.Maps
set_option linter.unusedVariables false

theorem mapTurned_below {w w' w'' : World} {B C : Nat} (h : Below C w w') (ht : w'.mapTurned w'' B) (hB : C ≤ B) (hC : C ≤ w.heap.size) : Below C w w'' :=
  h.grown ht.grown (Nat.le_trans hC h.size) (fun k hk => by injection hk with hk; omega)

theorem opAt_zero {l : Ln} : (l.wd.1 == 0) = true ↔ l.wd.1 = 0 := by simp

/-- Where it is: block B, or nowhere. -/
def mapV (z : Bool) (B : Nat) : Value := .map (if z = true then some B else none)

set_option maxRecDepth 100000 in
set_option maxHeartbeats 2000000 in
theorem places_any (a : Option Addr) (cap : Nat) (ls : List Ln) (z : Bool) (w : World) (hl : ls.length ≤ 1048576) (ht : TextsP ls) (h : Lns w a ls) (hz : z = true ↔ oncePto ls ls.length) :
    Calls Try.prog 46 #[.slice a ls.length cap] w fun e w' => ∃ B, e = .returned (.tuple #[mapV z B, .bool z]) ∧ Ext w w' ∧ (z = true → w.heap.size ≤ B ∧ MapOf w' B ls.length (upTo ls ls.length)) := by
  obtain ⟨n, hn⟩ : ∃ n, n = ls.length := ⟨_, rfl⟩
  have HA : Hid (Lns w a ls ∧ n = ls.length ∧ TextsP ls ∧ (z = true ↔ oncePto ls n)) := ⟨h, hn, ht, by rw [hn]; exact hz⟩
  rw [← hn]
  have hl' : n ≤ 1048576 := by omega
  clear h hn hl ht hz
  have hmm := @run_makeMap Try.prog
  go_enter Try.func46, Try.ntmps46
  go_wp2_with fail
  obtain ⟨B, hB⟩ : ∃ B, B = w.heap.size := ⟨_, rfl⟩
  have b0 : Below w.heap.size w (w.alloc (.map #[] 0)) := (Below.refl _ w).alloc (Nat.le_refl _) _
  have m0 : MapOf (w.alloc (.map #[] 0)) B 0 (upTo ls 0) := by rw [hB]; exact MapOf.made w
  rw [← hB]
  have HB : Hid (B = w.heap.size) := hB
  clear hB hmm
  go_loopw [12] (fun i wr => ∃ k : Nat, i = .int .i64 k ∧ k ≤ n ∧ Hid (Below w.heap.size w wr ∧ oncePto ls k) ∧ MapOf wr B k (upTo ls k)) (fun i _ => n - (intOf i).toNat)
  case atStart => exact ⟨0, rfl, by omega, ⟨b0, fun i j _ hj => by omega⟩, m0⟩
  case round =>
    obtain ⟨k, rfl, hk, HR, hm⟩ := hrel
    clear b0 m0
    by_cases hlt : k < n
    · have bk : (k : Int) < (n : Int) := by omega
      obtain ⟨⟨lab, ⟨o, kk, y, nn⟩, yes, no⟩, hp⟩ : ∃ p, p = ls.getD k zeroL := ⟨_, rfl⟩
      obtain ⟨b, off, ha, hq⟩ := (HA.out.1.below HR.out.1 (Nat.le_refl _)).hept (k := k) (by have := HA.out.2; omega) hp
      subst ha
      obtain ⟨c0, c1, c2, c3, c4, c5, c6⟩ := hq
      simp only at c0 c1 c2 c3 c4 c5 c6
      have HP : Hid (Ln.mk lab (o, kk, y, nn) yes no = ls.getD k zeroL) := hp
      have hlab : lab.size ≤ maxLen := by have := (HA.out.2.2.1 k (by have := HA.out.2.1; omega)).1; rw [← hp] at this; simp only at this; unfold maxLen; omega
      clear hp
      go_wp2_with fail
      refine (iPlace_any ⟨lab, (o, kk, y, nn), yes, no⟩ _).mono ?_
      rintro e w2 ⟨rfl, e2⟩
      have E2 : Hid (Below w.heap.size w w2) := (HR.out.1.alloc HR.out.1.size _).trans (Below.mono e2 (by have := HR.out.1.size; simp; omega))
      have m2 : MapOf w2 B k (upTo ls k) := (hm.below (Below.alloc (Below.refl _ wr) (Nat.le_refl _) _) hm.lt).ext e2
      obtain ⟨d0, d1, d2, d3, d4, d5, d6⟩ := (hept_box wr ⟨lab, (o, kk, y, nn), yes, no⟩ 37).ext e2
      simp only [Nat.zero_add] at d0 d1 d2 d3 d4 d5 d6
      clear hm e2
      by_cases h0 : o = 0
      · subst h0
        cases hu : upTo ls k lab with
        | some j =>
          have HN : Hid (z = false) := by
            cases z with
            | false => rfl
            | true =>
              refine absurd (HA.out.2.2.2.1 rfl) ?_
              rw [HA.out.2.1]
              exact once_not (n := k) (j := j) (by have := HA.out.2.1; omega) (by rw [← HP.out]) (by rw [← HP.out]; exact hu)
          have hlk : (Instr.lookup 59 (.map (some B)) (.string lab) true).run Try.prog w2 = .ok (.tuple #[.int .i64 (j : Int), .bool true]) w2 := by rw [m2.lookOk hlab, hu]; rfl
          go_wp2
          go_ret2
          refine ⟨0, ?_, E2.out, fun h => ?_⟩
          · rw [HN.out]; rfl
          · rw [HN.out] at h; cases h
        | none =>
          have hlk : (Instr.lookup 59 (.map (some B)) (.string lab) true).run Try.prog w2 = .ok (.tuple #[.int .i64 0, .bool false]) w2 := by rw [m2.lookOk hlab, hu]; rfl
          have HU : Hid (upTo ls k lab = none) := hu
          clear hu
          go_wp2_with (first | (at_mapUpdate; refine wpList_put_map _ rfl _ _ _ rfl B k (upTo ls k) rfl m2 (by unfold maxLen; omega) lab rfl hlab k rfl (by omega) ?_; intro w3 m3 t3) | go_in)
          go_roundw
          case rel =>
            refine ⟨k + 1, by go_num, by omega, ⟨mapTurned_below E2.out t3 (by have := HB.out; omega) (Nat.le_refl _), once_next HR.out.2 fun _ => by rw [← HP.out]; exact HU.out⟩, ?_⟩
            refine m3.as fun s => ?_
            show _ = upTo ls (k + 1) s
            rw [upTo_succ, ← HP.out, if_pos rfl]
          case measure => simp [intOf]; omega
      · have q0 : (o == 0) = false := by simpa using h0
        have H0 : Hid (o ≠ 0) := h0
        clear h0
        go_wp2
        go_roundw
        case rel =>
          refine ⟨k + 1, by go_num, by omega, ⟨E2.out, once_next HR.out.2 fun h => absurd (by rw [← HP.out] at h; exact h) H0.out⟩, ?_⟩
          refine (m2.mono (Nat.le_succ _)).as fun s => ?_
          show _ = upTo ls (k + 1) s
          rw [upTo_succ, ← HP.out, if_neg H0.out]
        case measure => simp [intOf]; omega
    · have hkn : k = n := by omega
      have bk : ¬ ((k : Int) < (n : Int)) := by omega
      have HN : Hid (z = true) := by
        refine HA.out.2.2.2.2 ?_
        rw [← hkn]
        exact HR.out.2
      have HM : Hid (MapOf wr B n (upTo ls n)) := by rw [← hkn]; exact hm
      clear hm hkn
      go_wp2
      go_ret2
      refine ⟨B, ?_, HR.out.1, fun _ => ⟨by have := HB.out; omega, HM.out⟩⟩
      rw [HN.out]
      rfl

end Go.Proofs.Ytakcmiijnckaaaa
