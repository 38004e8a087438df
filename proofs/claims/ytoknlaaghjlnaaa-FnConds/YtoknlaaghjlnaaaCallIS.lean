/- What impl's and spec's CallOk answer, of any call. -/
import Derived.Test.YtoknlaaghjlnaaaAndIS
namespace Go.Proofs.Ytoknlaaghjlnaaa
open Go.RowKit
set_option linter.unusedVariables false

/-- The wide numbers ws lie in memory behind the address a, two cells each. -/
def Wides (w : World) (a : Option Addr) (ws : List (Int × Int)) : Prop :=
  0 < ws.length → ∃ b off, a = some ⟨b, off, none⟩ ∧ b < w.heap.size ∧ ∀ j, j < ws.length →
    w.cell? ⟨b, off + j * 2, none⟩ = some (.int .i64 (ws.getD j (0, 0)).1) ∧ w.cell? ⟨b, off + j * 2 + 1, none⟩ = some (.int .i64 (ws.getD j (0, 0)).2)

theorem Wides.below {w w' : World} {a : Option Addr} {ws : List (Int × Int)} {B : Nat} (h : Wides w a ws) (hb : Below B w w') (hB : w.heap.size ≤ B) : Wides w' a ws := by
  intro hp
  obtain ⟨b, off, rfl, hlt, hc⟩ := h hp
  refine ⟨b, off, rfl, by have := hb.size; omega, fun j hj => ?_⟩
  obtain ⟨c0, c1⟩ := hc j hj
  exact ⟨(hb.cell (p := ⟨b, off + j * 2, none⟩) (show b < B by omega)).trans c0, (hb.cell (p := ⟨b, off + j * 2 + 1, none⟩) (show b < B by omega)).trans c1⟩

theorem callB_arch {arch num : Int} {ws : List (Int × Int)} (h : halfB arch = false) : callB arch num ws = false := by simp [callB, h]

theorem callB_num {arch num : Int} {ws : List (Int × Int)} (h : halfB num = false) : callB arch num ws = false := by simp [callB, h]

theorem callB_len {arch num : Int} {ws : List (Int × Int)} (h : ws.length ≠ 3) : callB arch num ws = false := by simp [callB, h]

theorem callB_all {arch num : Int} {ws : List (Int × Int)} (h0 : halfB arch = true) (h1 : halfB num = true) (h : ws.length = 3) : callB arch num ws = ws.all wideB := by simp [callB, h0, h1, h]

theorem all_no {ws : List (Int × Int)} {k : Nat} (hk : k < ws.length) (h : wideB (ws.getD k (0, 0)) = false) : ws.all wideB = false := by
  rw [Bool.eq_false_iff]
  intro ha
  have := List.all_eq_true.1 ha (ws.getD k (0, 0)) (by rw [List.getD_eq_getElem?_getD, List.getElem?_eq_getElem hk]; exact List.getElem_mem hk)
  rw [h] at this
  exact Bool.noConfusion this

set_option maxRecDepth 100000 in
set_option maxHeartbeats 1600000 in
theorem iCall_any (arch num : Int) (a : Option Addr) (cap : Nat) (ws : List (Int × Int)) (w : World) (hl : ws.length ≤ 1048576) (h : Wides w a ws) :
    Calls Try.prog 48 #[.agg #[.int .i64 arch, .int .i64 num, .slice a ws.length cap]] w fun e w' => e = .returned (.bool (callB arch num ws)) ∧ Below w.heap.size w w' := by
  obtain ⟨n, hn⟩ : ∃ n, n = ws.length := ⟨_, rfl⟩
  rw [← hn] at hl ⊢
  have HN : Hid (n = ws.length) := hn
  have HWD : Hid (Wides w a ws) := h
  clear hn h
  obtain ⟨W, hW⟩ : ∃ W, W = w.alloc (.cells #[.int .i64 arch, .int .i64 num, .slice a n cap] 29) := ⟨_, rfl⟩
  have sz : Hid (W.heap.size = w.heap.size + 1) := by unfold Hid; rw [hW]; simp
  have bel : Hid (Below w.heap.size w W) := by rw [hW]; exact (Below.refl _ _).alloc (Nat.le_refl _) _
  have HW : Hid (W = w.alloc (.cells #[.int .i64 arch, .int .i64 num, .slice a n cap] 29)) := hW
  cases h0 : halfB arch
  · rw [callB_arch h0]
    go_enter Try.func48, Try.ntmps48
    go_wp2_with (go_at_call 51; refine (iHalf_any _ _).mono ?_; rintro e w' ⟨rfl, rfl⟩)
    go_ret
    exact ⟨rfl, by rw [← HW.out]; exact bel.out⟩
  cases h1 : halfB num
  · rw [callB_num h1]
    go_enter Try.func48, Try.ntmps48
    go_wp2_with (go_at_call 51; refine (iHalf_any _ _).mono ?_; rintro e w' ⟨rfl, rfl⟩)
    go_ret
    exact ⟨rfl, by rw [← HW.out]; exact bel.out⟩
  by_cases h3 : n = 3
  · have HB : Hid (callB arch num ws = ws.all wideB) := callB_all h0 h1 (by rw [← HN.out]; exact h3)
    have HWW : Hid (Wides W a ws) := HWD.out.below bel.out (Nat.le_refl _)
    subst h3
    clear hW
    go_enter Try.func48, Try.ntmps48
    go_wp2_with (go_at_call 51; refine (iHalf_any _ _).mono ?_; rintro e w' ⟨rfl, rfl⟩)
    go_loopw [24] (fun i wr => ∃ k : Nat, i = .int .i64 k ∧ k ≤ 3 ∧ Below W.heap.size W wr ∧ Hid ((ws.take k).all wideB = true)) (fun i _ => 3 - (intOf i).toNat)
    case atStart => exact ⟨0, rfl, by omega, by rw [HW.out]; exact Below.refl _ _, by simp [Hid]⟩
    case round =>
      obtain ⟨k, rfl, hk, hbw, hall⟩ := hrel
      by_cases hlt : k < 3
      · have bk : (k : Int) < 3 := by omega
        obtain ⟨b, off, rfl, hbl, hc⟩ := HWW.out.below hbw (Nat.le_refl _) (by rw [← HN.out]; omega)
        obtain ⟨c0, c1⟩ := hc k (by rw [← HN.out]; exact hlt)
        obtain ⟨p, hp⟩ : ∃ p, p = ws.getD k (0, 0) := ⟨_, rfl⟩
        rw [← hp] at c0 c1
        obtain ⟨x, y⟩ := p
        have HP : Hid ((x, y) = ws.getD k (0, 0)) := hp
        clear hp hc
        go_wp2_with fail
        refine (iWide_any x y _).mono ?_
        rintro e w2 ⟨rfl, hb2⟩
        have hbw2 : Below W.heap.size W w2 := (hbw.alloc hbw.size _).trans (hb2.mono (by have := hbw.size; simp; omega))
        have HB2 : Hid (Below W.heap.size W w2) := hbw2
        cases hwide : wideB (x, y)
        · have HF : Hid (ws.all wideB = false) := all_no (k := k) (by rw [← HN.out]; exact hlt) (by rw [← HP.out]; exact hwide)
          clear hbw2 hb2
          go_wp2
          go_ret
          exact ⟨by rw [HB.out, HF.out]; rfl, bel.out.trans (HB2.out.mono (by rw [sz.out]; omega))⟩
        · have HT : Hid ((ws.take (k + 1)).all wideB = true) := by unfold Hid; rw [all_take ws k (by rw [← HN.out]; exact hlt), hall.out, ← HP.out, hwide]; rfl
          clear hb2
          go_wp2
          go_roundw
          case rel => exact ⟨k + 1, by go_num, by omega, hbw2, HT⟩
          case measure => simp [intOf]; omega
      · have hk3 : k = 3 := by omega
        have HT : Hid (ws.all wideB = true) := by
          have := hall.out
          rw [hk3, List.take_of_length_le (by rw [← HN.out]; omega)] at this
          exact this
        have HB2 : Hid (Below W.heap.size W wr) := hbw
        clear hall
        go_wp2
        go_ret
        exact ⟨by rw [HB.out, HT.out]; rfl, bel.out.trans (HB2.out.mono (by rw [sz.out]; omega))⟩
  · have hq : ((n : Int) == 3) = false := by simp; omega
    rw [callB_len (by rw [← HN.out]; exact h3)]
    clear h3
    go_enter Try.func48, Try.ntmps48
    go_wp2_with (go_at_call 51; refine (iHalf_any _ _).mono ?_; rintro e w' ⟨rfl, rfl⟩)
    go_ret
    exact ⟨rfl, by rw [← HW.out]; exact bel.out⟩

set_option maxRecDepth 100000 in
set_option maxHeartbeats 1600000 in
theorem sCall_any (arch num : Int) (a : Option Addr) (cap : Nat) (ws : List (Int × Int)) (w : World) (hl : ws.length ≤ 1048576) (h : Wides w a ws) :
    Calls Try.prog 49 #[.agg #[.int .i64 arch, .int .i64 num, .slice a ws.length cap]] w fun e w' => e = .returned (.bool (callB arch num ws)) ∧ Below w.heap.size w w' := by
  obtain ⟨n, hn⟩ : ∃ n, n = ws.length := ⟨_, rfl⟩
  rw [← hn] at hl ⊢
  have HN : Hid (n = ws.length) := hn
  have HWD : Hid (Wides w a ws) := h
  clear hn h
  obtain ⟨W, hW⟩ : ∃ W, W = w.alloc (.cells #[.int .i64 arch, .int .i64 num, .slice a n cap] 29) := ⟨_, rfl⟩
  have sz : Hid (W.heap.size = w.heap.size + 1) := by unfold Hid; rw [hW]; simp
  have bel : Hid (Below w.heap.size w W) := by rw [hW]; exact (Below.refl _ _).alloc (Nat.le_refl _) _
  have HW : Hid (W = w.alloc (.cells #[.int .i64 arch, .int .i64 num, .slice a n cap] 29)) := hW
  have HWW : Hid (Wides W a ws) := HWD.out.below bel.out (Nat.le_refl _)
  clear hW
  go_enter Try.func49, Try.ntmps49
  go_wp2_with fail
  go_loopw [3] (fun i wr => ∃ k : Nat, i = .int .i64 k ∧ k ≤ n ∧ Below W.heap.size W wr ∧ Hid ((ws.take k).all wideB = true)) (fun i _ => n - (intOf i).toNat)
  case atStart => exact ⟨0, rfl, by omega, by rw [HW.out]; exact Below.refl _ _, by simp [Hid]⟩
  case round =>
    obtain ⟨k, rfl, hk, hbw, hall⟩ := hrel
    have bx0 : wr.cell? ⟨w.heap.size, 0, none⟩ = some (.int .i64 arch) := (hbw.cell (p := ⟨w.heap.size, 0, none⟩) (by show w.heap.size < W.heap.size; rw [sz.out]; omega)).trans (by rw [HW.out]; simp [go_sem])
    have bx1 : wr.cell? ⟨w.heap.size, 1, none⟩ = some (.int .i64 num) := (hbw.cell (p := ⟨w.heap.size, 1, none⟩) (by show w.heap.size < W.heap.size; rw [sz.out]; omega)).trans (by rw [HW.out]; simp [go_sem])
    have bx2 : wr.cell? ⟨w.heap.size, 2, none⟩ = some (.slice a n cap) := (hbw.cell (p := ⟨w.heap.size, 2, none⟩) (by show w.heap.size < W.heap.size; rw [sz.out]; omega)).trans (by rw [HW.out]; simp [go_sem])
    by_cases hlt : k < n
    · have bk : (k : Int) < n := by omega
      obtain ⟨b, off, rfl, hbl, hc⟩ := HWW.out.below hbw (Nat.le_refl _) (by rw [← HN.out]; omega)
      obtain ⟨c0, c1⟩ := hc k (by rw [← HN.out]; exact hlt)
      obtain ⟨p, hp⟩ : ∃ p, p = ws.getD k (0, 0) := ⟨_, rfl⟩
      rw [← hp] at c0 c1
      obtain ⟨x, y⟩ := p
      have HP : Hid ((x, y) = ws.getD k (0, 0)) := hp
      clear hp hc
      go_wp2_with fail
      refine (sWide_any x y _).mono ?_
      rintro e w2 ⟨rfl, hb2⟩
      have hbw2 : Below W.heap.size W w2 := hbw.trans (hb2.mono (by have := hbw.size; omega))
      have HB2 : Hid (Below W.heap.size W w2) := hbw2
      cases hwide : wideB (x, y)
      · have HF : Hid (callB arch num ws = false) := by
          have := all_no (ws := ws) (k := k) (by rw [← HN.out]; exact hlt) (by rw [← HP.out]; exact hwide)
          unfold Hid callB; rw [this]; simp
        clear hbw2 hb2
        go_wp2
        go_ret
        exact ⟨by rw [HF.out]; rfl, bel.out.trans (HB2.out.mono (by rw [sz.out]; omega))⟩
      · have HT : Hid ((ws.take (k + 1)).all wideB = true) := by unfold Hid; rw [all_take ws k (by rw [← HN.out]; exact hlt), hall.out, ← HP.out, hwide]; rfl
        clear hb2 bx0 bx1 bx2
        go_wp2
        go_roundw
        case rel => exact ⟨k + 1, by go_num, by omega, hbw2, HT⟩
        case measure => simp [intOf]; omega
    · have hkn : k = n := by omega
      have HT : Hid (ws.all wideB = true) := by
        have := hall.out
        rw [hkn, List.take_of_length_le (by rw [← HN.out]; omega)] at this
        exact this
      have HC : Hid (callB arch num ws = (halfB arch && halfB num && decide (n = 3))) := by unfold Hid callB; rw [HT.out, ← HN.out]; simp
      have HB2 : Hid (Below w.heap.size w wr) := bel.out.trans (hbw.mono (by rw [sz.out]; omega))
      have hlt' : ¬ ((k : Int) < n) := by omega
      clear hall hbw hkn
      cases h0 : halfB arch
      · go_wp2_with (go_at_call 55; refine (sHalf_any _ _).mono ?_; rintro e w' ⟨rfl, rfl⟩)
        go_ret
        exact ⟨by rw [HC.out, h0]; rfl, HB2.out⟩
      cases h1 : halfB num
      · go_wp2_with (go_at_call 55; refine (sHalf_any _ _).mono ?_; rintro e w' ⟨rfl, rfl⟩)
        go_ret
        exact ⟨by rw [HC.out, h0, h1]; rfl, HB2.out⟩
      · obtain ⟨q, hq⟩ : ∃ q : Bool, q = ((n : Int) == 3) := ⟨_, rfl⟩
        have HQ : Hid (q = decide (n = 3)) := by
          unfold Hid; rw [hq]
          by_cases h3 : n = 3
          · subst h3; rfl
          · rw [decide_eq_false h3]; simp; omega
        have hq' : ((n : Int) == 3) = q := hq.symm
        clear hq
        go_wp2_with (go_at_call 55; refine (sHalf_any _ _).mono ?_; rintro e w' ⟨rfl, rfl⟩)
        go_ret
        exact ⟨by rw [HC.out, h0, h1, ← HQ.out]; simp, HB2.out⟩

end Go.Proofs.Ytoknlaaghjlnaaa
