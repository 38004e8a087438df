/- What impl's and spec's FieldAt answer, of any call and any place. -/
import Derived.Test.YtaigoggoibdgbaaCallIS
namespace Go.Proofs.Ytaigoggoibdgbaa
open Go.RowKit
set_option linter.unusedVariables false

set_option maxRecDepth 100000 in
set_option maxHeartbeats 3200000 in
theorem iField_any (arch num : Int) (a : Option Addr) (cap : Nat) (ws : List (Int × Int)) (t : Int) (w : World) (hl : ws.length ≤ 1048576) (h : Wides w a ws) :
    Calls Try.prog 63 #[.agg #[.int .i64 arch, .int .i64 num, .slice a ws.length cap], .int .i64 t] w fun e w' => e = .returned (.tuple #[.int .i64 (if fieldOk arch num ws t then fieldV arch num ws t else 0), .bool (fieldOk arch num ws t)]) ∧ Below w.heap.size w w' := by
  obtain ⟨n, hn⟩ : ∃ n, n = ws.length := ⟨_, rfl⟩
  rw [← hn] at hl ⊢
  have HN : Hid (n = ws.length) := hn
  have HWD : Hid (Wides w a ws) := h
  clear hn h
  obtain ⟨W, hW⟩ : ∃ W, W = w.alloc (.cells #[.int .i64 arch, .int .i64 num, .slice a n cap] 28) := ⟨_, rfl⟩
  have sz : Hid (W.heap.size = w.heap.size + 1) := by unfold Hid; rw [hW]; simp
  have bel : Hid (Below w.heap.size w W) := by rw [hW]; exact (Below.refl _ _).alloc (Nat.le_refl _) _
  have HW : Hid (W = w.alloc (.cells #[.int .i64 arch, .int .i64 num, .slice a n cap] 28)) := hW
  have HWW : Hid (Wides W a ws) := HWD.out.below bel.out (Nat.le_refl _)
  have hcall := iCall_any arch num a cap ws W (by rw [← HN.out]; exact hl) HWW.out
  rw [← HN.out, hW] at hcall
  have HCALL : Hid (Calls Try.prog 40 #[.agg #[.int .i64 arch, .int .i64 num, .slice a n cap]] (w.alloc (.cells #[.int .i64 arch, .int .i64 num, .slice a n cap] 28)) fun e w' => e = .returned (.bool (callB arch num ws)) ∧ Below (w.alloc (.cells #[.int .i64 arch, .int .i64 num, .slice a n cap] 28)).heap.size (w.alloc (.cells #[.int .i64 arch, .int .i64 num, .slice a n cap] 28)) w') := hcall
  clear hcall
  clear hW
  by_cases t0 : 0 ≤ t
  case neg =>
    have HF : Hid (fieldOk arch num ws t = false) := by unfold Hid fieldOk; rw [decide_eq_false t0]; simp
    rw [HF.out]
    go_enter Try.func63, Try.ntmps63
    go_wp2
    go_ret2
    exact ⟨rfl, by rw [← HW.out]; exact bel.out⟩
  by_cases t7 : t ≤ 7
  case neg =>
    have HF : Hid (fieldOk arch num ws t = false) := by unfold Hid fieldOk; rw [decide_eq_false t7]; simp
    rw [HF.out]
    go_enter Try.func63, Try.ntmps63
    go_wp2
    go_ret2
    exact ⟨rfl, by rw [← HW.out]; exact bel.out⟩
  cases hcb : callB arch num ws
  · have HF : Hid (fieldOk arch num ws t = false) := by unfold Hid fieldOk; rw [hcb]; simp
    rw [HF.out]
    go_enter Try.func63, Try.ntmps63
    go_wp2_with fail
    refine HCALL.out.mono ?_
    rintro e w1 ⟨rfl, hb⟩
    have hb' : Hid (Below W.heap.size W w1) := by rw [HW.out]; exact hb
    have hz : w.heap.size < w1.heap.size := by have := hb'.out.size; rw [sz.out] at this; omega
    have hbF : Hid (Below w.heap.size w w1) := bel.out.trans (hb'.out.mono (by rw [sz.out]; omega))
    rw [hcb]
    clear hb
    go_wp2
    go_ret2
    exact ⟨rfl, hbF.out⟩
  have HL : Hid (n = 3) := by
    unfold Hid; rw [HN.out]
    have := hcb
    unfold callB at this
    simp only [Bool.and_eq_true, decide_eq_true_eq] at this
    exact this.1.2
  obtain ⟨v, hv⟩ : ∃ v, v = fieldV arch num ws t := ⟨_, rfl⟩
  have HF : Hid (fieldOk arch num ws t = true) := by unfold Hid fieldOk; rw [hcb, decide_eq_true t0, decide_eq_true t7]; rfl
  rw [HF.out, if_pos rfl, ← hv]
  have h3 := HL.out
  subst h3
  obtain ⟨b, off, ha, hbl, hcs⟩ := HWW.out (by rw [← HN.out]; omega)
  subst ha
  have HCS : Hid (b < W.heap.size ∧ ∀ j, j < 3 → W.cell? ⟨b, off + j * 2, none⟩ = some (.int .i64 (ws.getD j (0, 0)).1) ∧ W.cell? ⟨b, off + j * 2 + 1, none⟩ = some (.int .i64 (ws.getD j (0, 0)).2)) := ⟨hbl, by rw [HN.out]; exact hcs⟩
  clear hcs hbl
  have ht : t = 0 ∨ t = 1 ∨ ∃ j : Nat, j < 3 ∧ (t = 2 + 2 * j ∨ t = 3 + 2 * j) := by
    by_cases e0 : t = 0
    · exact .inl e0
    by_cases e1 : t = 1
    · exact .inr (.inl e1)
    exact .inr (.inr ⟨(t / 2 - 1).toNat, by omega, by omega⟩)
  rcases ht with rfl | rfl | ⟨j, hj, ht⟩
  · have HV : Hid (v = num) := by unfold Hid; rw [hv]; rfl
    clear hv
    go_enter Try.func63, Try.ntmps63
    go_wp2_with fail
    refine HCALL.out.mono ?_
    rintro e w1 ⟨rfl, hb⟩
    have hb' : Hid (Below W.heap.size W w1) := by rw [HW.out]; exact hb
    have hz : w.heap.size < w1.heap.size := by have := hb'.out.size; rw [sz.out] at this; omega
    have hbF : Hid (Below w.heap.size w w1) := bel.out.trans (hb'.out.mono (by rw [sz.out]; omega))
    have bx0 : w1.cell? ⟨w.heap.size, 0, none⟩ = some (.int .i64 arch) := (hb'.out.cell (p := ⟨w.heap.size, 0, none⟩) (by show w.heap.size < W.heap.size; rw [sz.out]; omega)).trans (by rw [HW.out]; simp [go_sem])
    have bx1 : w1.cell? ⟨w.heap.size, 1, none⟩ = some (.int .i64 num) := (hb'.out.cell (p := ⟨w.heap.size, 1, none⟩) (by show w.heap.size < W.heap.size; rw [sz.out]; omega)).trans (by rw [HW.out]; simp [go_sem])
    have bx2 : w1.cell? ⟨w.heap.size, 2, none⟩ = some (.slice (some ⟨b, off, none⟩) 3 cap) := (hb'.out.cell (p := ⟨w.heap.size, 2, none⟩) (by show w.heap.size < W.heap.size; rw [sz.out]; omega)).trans (by rw [HW.out]; simp [go_sem])
    rw [hcb]
    clear hb
    go_wp2
    go_ret2
    exact ⟨by rw [HV.out]; rfl, hbF.out⟩
  · have HV : Hid (v = arch) := by unfold Hid; rw [hv]; rfl
    clear hv
    go_enter Try.func63, Try.ntmps63
    go_wp2_with fail
    refine HCALL.out.mono ?_
    rintro e w1 ⟨rfl, hb⟩
    have hb' : Hid (Below W.heap.size W w1) := by rw [HW.out]; exact hb
    have hz : w.heap.size < w1.heap.size := by have := hb'.out.size; rw [sz.out] at this; omega
    have hbF : Hid (Below w.heap.size w w1) := bel.out.trans (hb'.out.mono (by rw [sz.out]; omega))
    have bx0 : w1.cell? ⟨w.heap.size, 0, none⟩ = some (.int .i64 arch) := (hb'.out.cell (p := ⟨w.heap.size, 0, none⟩) (by show w.heap.size < W.heap.size; rw [sz.out]; omega)).trans (by rw [HW.out]; simp [go_sem])
    have bx1 : w1.cell? ⟨w.heap.size, 1, none⟩ = some (.int .i64 num) := (hb'.out.cell (p := ⟨w.heap.size, 1, none⟩) (by show w.heap.size < W.heap.size; rw [sz.out]; omega)).trans (by rw [HW.out]; simp [go_sem])
    have bx2 : w1.cell? ⟨w.heap.size, 2, none⟩ = some (.slice (some ⟨b, off, none⟩) 3 cap) := (hb'.out.cell (p := ⟨w.heap.size, 2, none⟩) (by show w.heap.size < W.heap.size; rw [sz.out]; omega)).trans (by rw [HW.out]; simp [go_sem])
    rw [hcb]
    clear hb
    go_wp2
    go_ret2
    exact ⟨by rw [HV.out]; rfl, hbF.out⟩
  have hj3 : j = 0 ∨ j = 1 ∨ j = 2 := by omega
  clear hj
  rcases hj3 with rfl | rfl | rfl
  · rcases ht with rfl | rfl
    · obtain ⟨p, hp⟩ : ∃ p, p = ws.getD 0 (0, 0) := ⟨_, rfl⟩
      have HV : Hid (v = p.2) := by unfold Hid; rw [hv, hp]; rfl
      obtain ⟨x, y⟩ := p
      have HP : Hid ((x, y) = ws.getD 0 (0, 0)) := hp
      clear hv hp
      go_enter Try.func63, Try.ntmps63
      go_wp2_with fail
      refine HCALL.out.mono ?_
      rintro e w1 ⟨rfl, hb⟩
      have hb' : Hid (Below W.heap.size W w1) := by rw [HW.out]; exact hb
      have hz : w.heap.size < w1.heap.size := by have := hb'.out.size; rw [sz.out] at this; omega
      have hbF : Hid (Below w.heap.size w w1) := bel.out.trans (hb'.out.mono (by rw [sz.out]; omega))
      have bx0 : w1.cell? ⟨w.heap.size, 0, none⟩ = some (.int .i64 arch) := (hb'.out.cell (p := ⟨w.heap.size, 0, none⟩) (by show w.heap.size < W.heap.size; rw [sz.out]; omega)).trans (by rw [HW.out]; simp [go_sem])
      have bx1 : w1.cell? ⟨w.heap.size, 1, none⟩ = some (.int .i64 num) := (hb'.out.cell (p := ⟨w.heap.size, 1, none⟩) (by show w.heap.size < W.heap.size; rw [sz.out]; omega)).trans (by rw [HW.out]; simp [go_sem])
      have bx2 : w1.cell? ⟨w.heap.size, 2, none⟩ = some (.slice (some ⟨b, off, none⟩) 3 cap) := (hb'.out.cell (p := ⟨w.heap.size, 2, none⟩) (by show w.heap.size < W.heap.size; rw [sz.out]; omega)).trans (by rw [HW.out]; simp [go_sem])
      have d0 : w1.cell? ⟨b, off, none⟩ = some (.int .i64 x) := (hb'.out.cell (p := ⟨b, off + 0 * 2, none⟩) HCS.out.1).trans (by rw [(HCS.out.2 0 (by omega)).1, ← HP.out])
      have d1 : w1.cell? ⟨b, off + 1, none⟩ = some (.int .i64 y) := (hb'.out.cell (p := ⟨b, off + 0 * 2 + 1, none⟩) HCS.out.1).trans (by rw [(HCS.out.2 0 (by omega)).2, ← HP.out])
      rw [hcb]
      clear hb
      go_wp2
      go_ret2
      exact ⟨by rw [HV.out]; rfl, hbF.out.alloc (by omega) _⟩
    · obtain ⟨p, hp⟩ : ∃ p, p = ws.getD 0 (0, 0) := ⟨_, rfl⟩
      have HV : Hid (v = p.1) := by unfold Hid; rw [hv, hp]; rfl
      obtain ⟨x, y⟩ := p
      have HP : Hid ((x, y) = ws.getD 0 (0, 0)) := hp
      clear hv hp
      go_enter Try.func63, Try.ntmps63
      go_wp2_with fail
      refine HCALL.out.mono ?_
      rintro e w1 ⟨rfl, hb⟩
      have hb' : Hid (Below W.heap.size W w1) := by rw [HW.out]; exact hb
      have hz : w.heap.size < w1.heap.size := by have := hb'.out.size; rw [sz.out] at this; omega
      have hbF : Hid (Below w.heap.size w w1) := bel.out.trans (hb'.out.mono (by rw [sz.out]; omega))
      have bx0 : w1.cell? ⟨w.heap.size, 0, none⟩ = some (.int .i64 arch) := (hb'.out.cell (p := ⟨w.heap.size, 0, none⟩) (by show w.heap.size < W.heap.size; rw [sz.out]; omega)).trans (by rw [HW.out]; simp [go_sem])
      have bx1 : w1.cell? ⟨w.heap.size, 1, none⟩ = some (.int .i64 num) := (hb'.out.cell (p := ⟨w.heap.size, 1, none⟩) (by show w.heap.size < W.heap.size; rw [sz.out]; omega)).trans (by rw [HW.out]; simp [go_sem])
      have bx2 : w1.cell? ⟨w.heap.size, 2, none⟩ = some (.slice (some ⟨b, off, none⟩) 3 cap) := (hb'.out.cell (p := ⟨w.heap.size, 2, none⟩) (by show w.heap.size < W.heap.size; rw [sz.out]; omega)).trans (by rw [HW.out]; simp [go_sem])
      have d0 : w1.cell? ⟨b, off, none⟩ = some (.int .i64 x) := (hb'.out.cell (p := ⟨b, off + 0 * 2, none⟩) HCS.out.1).trans (by rw [(HCS.out.2 0 (by omega)).1, ← HP.out])
      have d1 : w1.cell? ⟨b, off + 1, none⟩ = some (.int .i64 y) := (hb'.out.cell (p := ⟨b, off + 0 * 2 + 1, none⟩) HCS.out.1).trans (by rw [(HCS.out.2 0 (by omega)).2, ← HP.out])
      rw [hcb]
      clear hb
      go_wp2
      go_ret2
      exact ⟨by rw [HV.out]; rfl, hbF.out.alloc (by omega) _⟩
  · rcases ht with rfl | rfl
    · obtain ⟨p, hp⟩ : ∃ p, p = ws.getD 1 (0, 0) := ⟨_, rfl⟩
      have HV : Hid (v = p.2) := by unfold Hid; rw [hv, hp]; rfl
      obtain ⟨x, y⟩ := p
      have HP : Hid ((x, y) = ws.getD 1 (0, 0)) := hp
      clear hv hp
      go_enter Try.func63, Try.ntmps63
      go_wp2_with fail
      refine HCALL.out.mono ?_
      rintro e w1 ⟨rfl, hb⟩
      have hb' : Hid (Below W.heap.size W w1) := by rw [HW.out]; exact hb
      have hz : w.heap.size < w1.heap.size := by have := hb'.out.size; rw [sz.out] at this; omega
      have hbF : Hid (Below w.heap.size w w1) := bel.out.trans (hb'.out.mono (by rw [sz.out]; omega))
      have bx0 : w1.cell? ⟨w.heap.size, 0, none⟩ = some (.int .i64 arch) := (hb'.out.cell (p := ⟨w.heap.size, 0, none⟩) (by show w.heap.size < W.heap.size; rw [sz.out]; omega)).trans (by rw [HW.out]; simp [go_sem])
      have bx1 : w1.cell? ⟨w.heap.size, 1, none⟩ = some (.int .i64 num) := (hb'.out.cell (p := ⟨w.heap.size, 1, none⟩) (by show w.heap.size < W.heap.size; rw [sz.out]; omega)).trans (by rw [HW.out]; simp [go_sem])
      have bx2 : w1.cell? ⟨w.heap.size, 2, none⟩ = some (.slice (some ⟨b, off, none⟩) 3 cap) := (hb'.out.cell (p := ⟨w.heap.size, 2, none⟩) (by show w.heap.size < W.heap.size; rw [sz.out]; omega)).trans (by rw [HW.out]; simp [go_sem])
      have d0 : w1.cell? ⟨b, off + 2, none⟩ = some (.int .i64 x) := (hb'.out.cell (p := ⟨b, off + 1 * 2, none⟩) HCS.out.1).trans (by rw [(HCS.out.2 1 (by omega)).1, ← HP.out])
      have d1 : w1.cell? ⟨b, off + 3, none⟩ = some (.int .i64 y) := (hb'.out.cell (p := ⟨b, off + 1 * 2 + 1, none⟩) HCS.out.1).trans (by rw [(HCS.out.2 1 (by omega)).2, ← HP.out])
      rw [hcb]
      clear hb
      go_wp2
      go_ret2
      exact ⟨by rw [HV.out]; rfl, hbF.out.alloc (by omega) _⟩
    · obtain ⟨p, hp⟩ : ∃ p, p = ws.getD 1 (0, 0) := ⟨_, rfl⟩
      have HV : Hid (v = p.1) := by unfold Hid; rw [hv, hp]; rfl
      obtain ⟨x, y⟩ := p
      have HP : Hid ((x, y) = ws.getD 1 (0, 0)) := hp
      clear hv hp
      go_enter Try.func63, Try.ntmps63
      go_wp2_with fail
      refine HCALL.out.mono ?_
      rintro e w1 ⟨rfl, hb⟩
      have hb' : Hid (Below W.heap.size W w1) := by rw [HW.out]; exact hb
      have hz : w.heap.size < w1.heap.size := by have := hb'.out.size; rw [sz.out] at this; omega
      have hbF : Hid (Below w.heap.size w w1) := bel.out.trans (hb'.out.mono (by rw [sz.out]; omega))
      have bx0 : w1.cell? ⟨w.heap.size, 0, none⟩ = some (.int .i64 arch) := (hb'.out.cell (p := ⟨w.heap.size, 0, none⟩) (by show w.heap.size < W.heap.size; rw [sz.out]; omega)).trans (by rw [HW.out]; simp [go_sem])
      have bx1 : w1.cell? ⟨w.heap.size, 1, none⟩ = some (.int .i64 num) := (hb'.out.cell (p := ⟨w.heap.size, 1, none⟩) (by show w.heap.size < W.heap.size; rw [sz.out]; omega)).trans (by rw [HW.out]; simp [go_sem])
      have bx2 : w1.cell? ⟨w.heap.size, 2, none⟩ = some (.slice (some ⟨b, off, none⟩) 3 cap) := (hb'.out.cell (p := ⟨w.heap.size, 2, none⟩) (by show w.heap.size < W.heap.size; rw [sz.out]; omega)).trans (by rw [HW.out]; simp [go_sem])
      have d0 : w1.cell? ⟨b, off + 2, none⟩ = some (.int .i64 x) := (hb'.out.cell (p := ⟨b, off + 1 * 2, none⟩) HCS.out.1).trans (by rw [(HCS.out.2 1 (by omega)).1, ← HP.out])
      have d1 : w1.cell? ⟨b, off + 3, none⟩ = some (.int .i64 y) := (hb'.out.cell (p := ⟨b, off + 1 * 2 + 1, none⟩) HCS.out.1).trans (by rw [(HCS.out.2 1 (by omega)).2, ← HP.out])
      rw [hcb]
      clear hb
      go_wp2
      go_ret2
      exact ⟨by rw [HV.out]; rfl, hbF.out.alloc (by omega) _⟩
  · rcases ht with rfl | rfl
    · obtain ⟨p, hp⟩ : ∃ p, p = ws.getD 2 (0, 0) := ⟨_, rfl⟩
      have HV : Hid (v = p.2) := by unfold Hid; rw [hv, hp]; rfl
      obtain ⟨x, y⟩ := p
      have HP : Hid ((x, y) = ws.getD 2 (0, 0)) := hp
      clear hv hp
      go_enter Try.func63, Try.ntmps63
      go_wp2_with fail
      refine HCALL.out.mono ?_
      rintro e w1 ⟨rfl, hb⟩
      have hb' : Hid (Below W.heap.size W w1) := by rw [HW.out]; exact hb
      have hz : w.heap.size < w1.heap.size := by have := hb'.out.size; rw [sz.out] at this; omega
      have hbF : Hid (Below w.heap.size w w1) := bel.out.trans (hb'.out.mono (by rw [sz.out]; omega))
      have bx0 : w1.cell? ⟨w.heap.size, 0, none⟩ = some (.int .i64 arch) := (hb'.out.cell (p := ⟨w.heap.size, 0, none⟩) (by show w.heap.size < W.heap.size; rw [sz.out]; omega)).trans (by rw [HW.out]; simp [go_sem])
      have bx1 : w1.cell? ⟨w.heap.size, 1, none⟩ = some (.int .i64 num) := (hb'.out.cell (p := ⟨w.heap.size, 1, none⟩) (by show w.heap.size < W.heap.size; rw [sz.out]; omega)).trans (by rw [HW.out]; simp [go_sem])
      have bx2 : w1.cell? ⟨w.heap.size, 2, none⟩ = some (.slice (some ⟨b, off, none⟩) 3 cap) := (hb'.out.cell (p := ⟨w.heap.size, 2, none⟩) (by show w.heap.size < W.heap.size; rw [sz.out]; omega)).trans (by rw [HW.out]; simp [go_sem])
      have d0 : w1.cell? ⟨b, off + 4, none⟩ = some (.int .i64 x) := (hb'.out.cell (p := ⟨b, off + 2 * 2, none⟩) HCS.out.1).trans (by rw [(HCS.out.2 2 (by omega)).1, ← HP.out])
      have d1 : w1.cell? ⟨b, off + 5, none⟩ = some (.int .i64 y) := (hb'.out.cell (p := ⟨b, off + 2 * 2 + 1, none⟩) HCS.out.1).trans (by rw [(HCS.out.2 2 (by omega)).2, ← HP.out])
      rw [hcb]
      clear hb
      go_wp2
      go_ret2
      exact ⟨by rw [HV.out]; rfl, hbF.out.alloc (by omega) _⟩
    · obtain ⟨p, hp⟩ : ∃ p, p = ws.getD 2 (0, 0) := ⟨_, rfl⟩
      have HV : Hid (v = p.1) := by unfold Hid; rw [hv, hp]; rfl
      obtain ⟨x, y⟩ := p
      have HP : Hid ((x, y) = ws.getD 2 (0, 0)) := hp
      clear hv hp
      go_enter Try.func63, Try.ntmps63
      go_wp2_with fail
      refine HCALL.out.mono ?_
      rintro e w1 ⟨rfl, hb⟩
      have hb' : Hid (Below W.heap.size W w1) := by rw [HW.out]; exact hb
      have hz : w.heap.size < w1.heap.size := by have := hb'.out.size; rw [sz.out] at this; omega
      have hbF : Hid (Below w.heap.size w w1) := bel.out.trans (hb'.out.mono (by rw [sz.out]; omega))
      have bx0 : w1.cell? ⟨w.heap.size, 0, none⟩ = some (.int .i64 arch) := (hb'.out.cell (p := ⟨w.heap.size, 0, none⟩) (by show w.heap.size < W.heap.size; rw [sz.out]; omega)).trans (by rw [HW.out]; simp [go_sem])
      have bx1 : w1.cell? ⟨w.heap.size, 1, none⟩ = some (.int .i64 num) := (hb'.out.cell (p := ⟨w.heap.size, 1, none⟩) (by show w.heap.size < W.heap.size; rw [sz.out]; omega)).trans (by rw [HW.out]; simp [go_sem])
      have bx2 : w1.cell? ⟨w.heap.size, 2, none⟩ = some (.slice (some ⟨b, off, none⟩) 3 cap) := (hb'.out.cell (p := ⟨w.heap.size, 2, none⟩) (by show w.heap.size < W.heap.size; rw [sz.out]; omega)).trans (by rw [HW.out]; simp [go_sem])
      have d0 : w1.cell? ⟨b, off + 4, none⟩ = some (.int .i64 x) := (hb'.out.cell (p := ⟨b, off + 2 * 2, none⟩) HCS.out.1).trans (by rw [(HCS.out.2 2 (by omega)).1, ← HP.out])
      have d1 : w1.cell? ⟨b, off + 5, none⟩ = some (.int .i64 y) := (hb'.out.cell (p := ⟨b, off + 2 * 2 + 1, none⟩) HCS.out.1).trans (by rw [(HCS.out.2 2 (by omega)).2, ← HP.out])
      rw [hcb]
      clear hb
      go_wp2
      go_ret2
      exact ⟨by rw [HV.out]; rfl, hbF.out.alloc (by omega) _⟩

set_option maxRecDepth 100000 in
set_option maxHeartbeats 3200000 in
theorem sField_any (arch num : Int) (a : Option Addr) (cap : Nat) (ws : List (Int × Int)) (t : Int) (w : World) (hl : ws.length ≤ 1048576) (h : Wides w a ws) :
    Calls Try.prog 46 #[.agg #[.int .i64 arch, .int .i64 num, .slice a ws.length cap], .int .i64 t] w fun e w' => e = .returned (.tuple #[.int .i64 (if fieldOk arch num ws t then fieldV arch num ws t else 0), .bool (fieldOk arch num ws t)]) ∧ Below w.heap.size w w' := by
  obtain ⟨n, hn⟩ : ∃ n, n = ws.length := ⟨_, rfl⟩
  rw [← hn] at hl ⊢
  have HN : Hid (n = ws.length) := hn
  have HWD : Hid (Wides w a ws) := h
  clear hn h
  obtain ⟨W, hW⟩ : ∃ W, W = w.alloc (.cells #[.int .i64 arch, .int .i64 num, .slice a n cap] 28) := ⟨_, rfl⟩
  have sz : Hid (W.heap.size = w.heap.size + 1) := by unfold Hid; rw [hW]; simp
  have bel : Hid (Below w.heap.size w W) := by rw [hW]; exact (Below.refl _ _).alloc (Nat.le_refl _) _
  have HW : Hid (W = w.alloc (.cells #[.int .i64 arch, .int .i64 num, .slice a n cap] 28)) := hW
  have HWW : Hid (Wides W a ws) := HWD.out.below bel.out (Nat.le_refl _)
  have hcall := sCall_any arch num a cap ws W (by rw [← HN.out]; exact hl) HWW.out
  rw [← HN.out, hW] at hcall
  have HCALL : Hid (Calls Try.prog 45 #[.agg #[.int .i64 arch, .int .i64 num, .slice a n cap]] (w.alloc (.cells #[.int .i64 arch, .int .i64 num, .slice a n cap] 28)) fun e w' => e = .returned (.bool (callB arch num ws)) ∧ Below (w.alloc (.cells #[.int .i64 arch, .int .i64 num, .slice a n cap] 28)).heap.size (w.alloc (.cells #[.int .i64 arch, .int .i64 num, .slice a n cap] 28)) w') := hcall
  clear hcall
  clear hW
  cases hcb : callB arch num ws
  · have HF : Hid (fieldOk arch num ws t = false) := by unfold Hid fieldOk; rw [hcb]; simp
    rw [HF.out]
    go_enter Try.func46, Try.ntmps46
    go_wp2_with fail
    refine HCALL.out.mono ?_
    rintro e w1 ⟨rfl, hb⟩
    have hb' : Hid (Below W.heap.size W w1) := by rw [HW.out]; exact hb
    have hz : w.heap.size < w1.heap.size := by have := hb'.out.size; rw [sz.out] at this; omega
    have hbF : Hid (Below w.heap.size w w1) := bel.out.trans (hb'.out.mono (by rw [sz.out]; omega))
    rw [hcb]
    clear hb
    go_wp2
    go_ret2
    exact ⟨rfl, hbF.out⟩
  cases hin : inB4 t 0 7
  · have HF : Hid (fieldOk arch num ws t = false) := by
      have : (decide (0 ≤ t) && decide (t ≤ 7)) = false := hin
      unfold Hid fieldOk; rw [this]; simp
    rw [HF.out]
    go_enter Try.func46, Try.ntmps46
    go_wp2_with fail
    refine HCALL.out.mono ?_
    rintro e w1 ⟨rfl, hb⟩
    have hb' : Hid (Below W.heap.size W w1) := by rw [HW.out]; exact hb
    have hz : w.heap.size < w1.heap.size := by have := hb'.out.size; rw [sz.out] at this; omega
    have hbF : Hid (Below w.heap.size w w1) := bel.out.trans (hb'.out.mono (by rw [sz.out]; omega))
    rw [hcb]
    clear hb
    go_wp2_with (go_at_call 37; refine (in4_any _ _ _ _).mono ?_; rintro e w' ⟨rfl, rfl⟩)
    go_ret2
    exact ⟨rfl, hbF.out⟩
  have t07 : 0 ≤ t ∧ t ≤ 7 := by simpa [inB4] using hin
  obtain ⟨t0, t7⟩ := t07
  have HL : Hid (n = 3) := by
    unfold Hid; rw [HN.out]
    have := hcb
    unfold callB at this
    simp only [Bool.and_eq_true, decide_eq_true_eq] at this
    exact this.1.2
  obtain ⟨v, hv⟩ : ∃ v, v = fieldV arch num ws t := ⟨_, rfl⟩
  have HF : Hid (fieldOk arch num ws t = true) := by unfold Hid fieldOk; rw [hcb, decide_eq_true t0, decide_eq_true t7]; rfl
  rw [HF.out, if_pos rfl, ← hv]
  have h3 := HL.out
  subst h3
  obtain ⟨b, off, ha, hbl, hcs⟩ := HWW.out (by rw [← HN.out]; omega)
  subst ha
  have HCS : Hid (b < W.heap.size ∧ ∀ j, j < 3 → W.cell? ⟨b, off + j * 2, none⟩ = some (.int .i64 (ws.getD j (0, 0)).1) ∧ W.cell? ⟨b, off + j * 2 + 1, none⟩ = some (.int .i64 (ws.getD j (0, 0)).2)) := ⟨hbl, by rw [HN.out]; exact hcs⟩
  clear hcs hbl
  have ht : t = 0 ∨ t = 1 ∨ ∃ j : Nat, j < 3 ∧ (t = 2 + 2 * j ∨ t = 3 + 2 * j) := by
    by_cases e0 : t = 0
    · exact .inl e0
    by_cases e1 : t = 1
    · exact .inr (.inl e1)
    exact .inr (.inr ⟨(t / 2 - 1).toNat, by omega, by omega⟩)
  rcases ht with rfl | rfl | ⟨j, hj, ht⟩
  · have HV : Hid (v = num) := by unfold Hid; rw [hv]; rfl
    clear hv
    go_enter Try.func46, Try.ntmps46
    go_wp2_with fail
    refine HCALL.out.mono ?_
    rintro e w1 ⟨rfl, hb⟩
    have hb' : Hid (Below W.heap.size W w1) := by rw [HW.out]; exact hb
    have hz : w.heap.size < w1.heap.size := by have := hb'.out.size; rw [sz.out] at this; omega
    have hbF : Hid (Below w.heap.size w w1) := bel.out.trans (hb'.out.mono (by rw [sz.out]; omega))
    have bx0 : w1.cell? ⟨w.heap.size, 0, none⟩ = some (.int .i64 arch) := (hb'.out.cell (p := ⟨w.heap.size, 0, none⟩) (by show w.heap.size < W.heap.size; rw [sz.out]; omega)).trans (by rw [HW.out]; simp [go_sem])
    have bx1 : w1.cell? ⟨w.heap.size, 1, none⟩ = some (.int .i64 num) := (hb'.out.cell (p := ⟨w.heap.size, 1, none⟩) (by show w.heap.size < W.heap.size; rw [sz.out]; omega)).trans (by rw [HW.out]; simp [go_sem])
    have bx2 : w1.cell? ⟨w.heap.size, 2, none⟩ = some (.slice (some ⟨b, off, none⟩) 3 cap) := (hb'.out.cell (p := ⟨w.heap.size, 2, none⟩) (by show w.heap.size < W.heap.size; rw [sz.out]; omega)).trans (by rw [HW.out]; simp [go_sem])
    rw [hcb]
    clear hb
    go_wp2_with (go_at_call 37; refine (in4_any _ _ _ _).mono ?_; rintro e w' ⟨rfl, rfl⟩)
    go_ret2
    exact ⟨by rw [HV.out]; rfl, hbF.out⟩
  · have HV : Hid (v = arch) := by unfold Hid; rw [hv]; rfl
    clear hv
    go_enter Try.func46, Try.ntmps46
    go_wp2_with fail
    refine HCALL.out.mono ?_
    rintro e w1 ⟨rfl, hb⟩
    have hb' : Hid (Below W.heap.size W w1) := by rw [HW.out]; exact hb
    have hz : w.heap.size < w1.heap.size := by have := hb'.out.size; rw [sz.out] at this; omega
    have hbF : Hid (Below w.heap.size w w1) := bel.out.trans (hb'.out.mono (by rw [sz.out]; omega))
    have bx0 : w1.cell? ⟨w.heap.size, 0, none⟩ = some (.int .i64 arch) := (hb'.out.cell (p := ⟨w.heap.size, 0, none⟩) (by show w.heap.size < W.heap.size; rw [sz.out]; omega)).trans (by rw [HW.out]; simp [go_sem])
    have bx1 : w1.cell? ⟨w.heap.size, 1, none⟩ = some (.int .i64 num) := (hb'.out.cell (p := ⟨w.heap.size, 1, none⟩) (by show w.heap.size < W.heap.size; rw [sz.out]; omega)).trans (by rw [HW.out]; simp [go_sem])
    have bx2 : w1.cell? ⟨w.heap.size, 2, none⟩ = some (.slice (some ⟨b, off, none⟩) 3 cap) := (hb'.out.cell (p := ⟨w.heap.size, 2, none⟩) (by show w.heap.size < W.heap.size; rw [sz.out]; omega)).trans (by rw [HW.out]; simp [go_sem])
    rw [hcb]
    clear hb
    go_wp2_with (go_at_call 37; refine (in4_any _ _ _ _).mono ?_; rintro e w' ⟨rfl, rfl⟩)
    go_ret2
    exact ⟨by rw [HV.out]; rfl, hbF.out⟩
  have hj3 : j = 0 ∨ j = 1 ∨ j = 2 := by omega
  clear hj
  rcases hj3 with rfl | rfl | rfl
  · rcases ht with rfl | rfl
    · obtain ⟨p, hp⟩ : ∃ p, p = ws.getD 0 (0, 0) := ⟨_, rfl⟩
      have HV : Hid (v = p.2) := by unfold Hid; rw [hv, hp]; rfl
      obtain ⟨x, y⟩ := p
      have HP : Hid ((x, y) = ws.getD 0 (0, 0)) := hp
      clear hv hp
      go_enter Try.func46, Try.ntmps46
      go_wp2_with fail
      refine HCALL.out.mono ?_
      rintro e w1 ⟨rfl, hb⟩
      have hb' : Hid (Below W.heap.size W w1) := by rw [HW.out]; exact hb
      have hz : w.heap.size < w1.heap.size := by have := hb'.out.size; rw [sz.out] at this; omega
      have hbF : Hid (Below w.heap.size w w1) := bel.out.trans (hb'.out.mono (by rw [sz.out]; omega))
      have bx0 : w1.cell? ⟨w.heap.size, 0, none⟩ = some (.int .i64 arch) := (hb'.out.cell (p := ⟨w.heap.size, 0, none⟩) (by show w.heap.size < W.heap.size; rw [sz.out]; omega)).trans (by rw [HW.out]; simp [go_sem])
      have bx1 : w1.cell? ⟨w.heap.size, 1, none⟩ = some (.int .i64 num) := (hb'.out.cell (p := ⟨w.heap.size, 1, none⟩) (by show w.heap.size < W.heap.size; rw [sz.out]; omega)).trans (by rw [HW.out]; simp [go_sem])
      have bx2 : w1.cell? ⟨w.heap.size, 2, none⟩ = some (.slice (some ⟨b, off, none⟩) 3 cap) := (hb'.out.cell (p := ⟨w.heap.size, 2, none⟩) (by show w.heap.size < W.heap.size; rw [sz.out]; omega)).trans (by rw [HW.out]; simp [go_sem])
      have d0 : w1.cell? ⟨b, off, none⟩ = some (.int .i64 x) := (hb'.out.cell (p := ⟨b, off + 0 * 2, none⟩) HCS.out.1).trans (by rw [(HCS.out.2 0 (by omega)).1, ← HP.out])
      have d1 : w1.cell? ⟨b, off + 1, none⟩ = some (.int .i64 y) := (hb'.out.cell (p := ⟨b, off + 0 * 2 + 1, none⟩) HCS.out.1).trans (by rw [(HCS.out.2 0 (by omega)).2, ← HP.out])
      rw [hcb]
      clear hb
      go_wp2_with (go_at_call 37; refine (in4_any _ _ _ _).mono ?_; rintro e w' ⟨rfl, rfl⟩)
      go_ret2
      exact ⟨by rw [HV.out]; rfl, hbF.out.alloc (by omega) _⟩
    · obtain ⟨p, hp⟩ : ∃ p, p = ws.getD 0 (0, 0) := ⟨_, rfl⟩
      have HV : Hid (v = p.1) := by unfold Hid; rw [hv, hp]; rfl
      obtain ⟨x, y⟩ := p
      have HP : Hid ((x, y) = ws.getD 0 (0, 0)) := hp
      clear hv hp
      go_enter Try.func46, Try.ntmps46
      go_wp2_with fail
      refine HCALL.out.mono ?_
      rintro e w1 ⟨rfl, hb⟩
      have hb' : Hid (Below W.heap.size W w1) := by rw [HW.out]; exact hb
      have hz : w.heap.size < w1.heap.size := by have := hb'.out.size; rw [sz.out] at this; omega
      have hbF : Hid (Below w.heap.size w w1) := bel.out.trans (hb'.out.mono (by rw [sz.out]; omega))
      have bx0 : w1.cell? ⟨w.heap.size, 0, none⟩ = some (.int .i64 arch) := (hb'.out.cell (p := ⟨w.heap.size, 0, none⟩) (by show w.heap.size < W.heap.size; rw [sz.out]; omega)).trans (by rw [HW.out]; simp [go_sem])
      have bx1 : w1.cell? ⟨w.heap.size, 1, none⟩ = some (.int .i64 num) := (hb'.out.cell (p := ⟨w.heap.size, 1, none⟩) (by show w.heap.size < W.heap.size; rw [sz.out]; omega)).trans (by rw [HW.out]; simp [go_sem])
      have bx2 : w1.cell? ⟨w.heap.size, 2, none⟩ = some (.slice (some ⟨b, off, none⟩) 3 cap) := (hb'.out.cell (p := ⟨w.heap.size, 2, none⟩) (by show w.heap.size < W.heap.size; rw [sz.out]; omega)).trans (by rw [HW.out]; simp [go_sem])
      have d0 : w1.cell? ⟨b, off, none⟩ = some (.int .i64 x) := (hb'.out.cell (p := ⟨b, off + 0 * 2, none⟩) HCS.out.1).trans (by rw [(HCS.out.2 0 (by omega)).1, ← HP.out])
      have d1 : w1.cell? ⟨b, off + 1, none⟩ = some (.int .i64 y) := (hb'.out.cell (p := ⟨b, off + 0 * 2 + 1, none⟩) HCS.out.1).trans (by rw [(HCS.out.2 0 (by omega)).2, ← HP.out])
      rw [hcb]
      clear hb
      go_wp2_with (go_at_call 37; refine (in4_any _ _ _ _).mono ?_; rintro e w' ⟨rfl, rfl⟩)
      go_ret2
      exact ⟨by rw [HV.out]; rfl, hbF.out.alloc (by omega) _⟩
  · rcases ht with rfl | rfl
    · obtain ⟨p, hp⟩ : ∃ p, p = ws.getD 1 (0, 0) := ⟨_, rfl⟩
      have HV : Hid (v = p.2) := by unfold Hid; rw [hv, hp]; rfl
      obtain ⟨x, y⟩ := p
      have HP : Hid ((x, y) = ws.getD 1 (0, 0)) := hp
      clear hv hp
      go_enter Try.func46, Try.ntmps46
      go_wp2_with fail
      refine HCALL.out.mono ?_
      rintro e w1 ⟨rfl, hb⟩
      have hb' : Hid (Below W.heap.size W w1) := by rw [HW.out]; exact hb
      have hz : w.heap.size < w1.heap.size := by have := hb'.out.size; rw [sz.out] at this; omega
      have hbF : Hid (Below w.heap.size w w1) := bel.out.trans (hb'.out.mono (by rw [sz.out]; omega))
      have bx0 : w1.cell? ⟨w.heap.size, 0, none⟩ = some (.int .i64 arch) := (hb'.out.cell (p := ⟨w.heap.size, 0, none⟩) (by show w.heap.size < W.heap.size; rw [sz.out]; omega)).trans (by rw [HW.out]; simp [go_sem])
      have bx1 : w1.cell? ⟨w.heap.size, 1, none⟩ = some (.int .i64 num) := (hb'.out.cell (p := ⟨w.heap.size, 1, none⟩) (by show w.heap.size < W.heap.size; rw [sz.out]; omega)).trans (by rw [HW.out]; simp [go_sem])
      have bx2 : w1.cell? ⟨w.heap.size, 2, none⟩ = some (.slice (some ⟨b, off, none⟩) 3 cap) := (hb'.out.cell (p := ⟨w.heap.size, 2, none⟩) (by show w.heap.size < W.heap.size; rw [sz.out]; omega)).trans (by rw [HW.out]; simp [go_sem])
      have d0 : w1.cell? ⟨b, off + 2, none⟩ = some (.int .i64 x) := (hb'.out.cell (p := ⟨b, off + 1 * 2, none⟩) HCS.out.1).trans (by rw [(HCS.out.2 1 (by omega)).1, ← HP.out])
      have d1 : w1.cell? ⟨b, off + 3, none⟩ = some (.int .i64 y) := (hb'.out.cell (p := ⟨b, off + 1 * 2 + 1, none⟩) HCS.out.1).trans (by rw [(HCS.out.2 1 (by omega)).2, ← HP.out])
      rw [hcb]
      clear hb
      go_wp2_with (go_at_call 37; refine (in4_any _ _ _ _).mono ?_; rintro e w' ⟨rfl, rfl⟩)
      go_ret2
      exact ⟨by rw [HV.out]; rfl, hbF.out.alloc (by omega) _⟩
    · obtain ⟨p, hp⟩ : ∃ p, p = ws.getD 1 (0, 0) := ⟨_, rfl⟩
      have HV : Hid (v = p.1) := by unfold Hid; rw [hv, hp]; rfl
      obtain ⟨x, y⟩ := p
      have HP : Hid ((x, y) = ws.getD 1 (0, 0)) := hp
      clear hv hp
      go_enter Try.func46, Try.ntmps46
      go_wp2_with fail
      refine HCALL.out.mono ?_
      rintro e w1 ⟨rfl, hb⟩
      have hb' : Hid (Below W.heap.size W w1) := by rw [HW.out]; exact hb
      have hz : w.heap.size < w1.heap.size := by have := hb'.out.size; rw [sz.out] at this; omega
      have hbF : Hid (Below w.heap.size w w1) := bel.out.trans (hb'.out.mono (by rw [sz.out]; omega))
      have bx0 : w1.cell? ⟨w.heap.size, 0, none⟩ = some (.int .i64 arch) := (hb'.out.cell (p := ⟨w.heap.size, 0, none⟩) (by show w.heap.size < W.heap.size; rw [sz.out]; omega)).trans (by rw [HW.out]; simp [go_sem])
      have bx1 : w1.cell? ⟨w.heap.size, 1, none⟩ = some (.int .i64 num) := (hb'.out.cell (p := ⟨w.heap.size, 1, none⟩) (by show w.heap.size < W.heap.size; rw [sz.out]; omega)).trans (by rw [HW.out]; simp [go_sem])
      have bx2 : w1.cell? ⟨w.heap.size, 2, none⟩ = some (.slice (some ⟨b, off, none⟩) 3 cap) := (hb'.out.cell (p := ⟨w.heap.size, 2, none⟩) (by show w.heap.size < W.heap.size; rw [sz.out]; omega)).trans (by rw [HW.out]; simp [go_sem])
      have d0 : w1.cell? ⟨b, off + 2, none⟩ = some (.int .i64 x) := (hb'.out.cell (p := ⟨b, off + 1 * 2, none⟩) HCS.out.1).trans (by rw [(HCS.out.2 1 (by omega)).1, ← HP.out])
      have d1 : w1.cell? ⟨b, off + 3, none⟩ = some (.int .i64 y) := (hb'.out.cell (p := ⟨b, off + 1 * 2 + 1, none⟩) HCS.out.1).trans (by rw [(HCS.out.2 1 (by omega)).2, ← HP.out])
      rw [hcb]
      clear hb
      go_wp2_with (go_at_call 37; refine (in4_any _ _ _ _).mono ?_; rintro e w' ⟨rfl, rfl⟩)
      go_ret2
      exact ⟨by rw [HV.out]; rfl, hbF.out.alloc (by omega) _⟩
  · rcases ht with rfl | rfl
    · obtain ⟨p, hp⟩ : ∃ p, p = ws.getD 2 (0, 0) := ⟨_, rfl⟩
      have HV : Hid (v = p.2) := by unfold Hid; rw [hv, hp]; rfl
      obtain ⟨x, y⟩ := p
      have HP : Hid ((x, y) = ws.getD 2 (0, 0)) := hp
      clear hv hp
      go_enter Try.func46, Try.ntmps46
      go_wp2_with fail
      refine HCALL.out.mono ?_
      rintro e w1 ⟨rfl, hb⟩
      have hb' : Hid (Below W.heap.size W w1) := by rw [HW.out]; exact hb
      have hz : w.heap.size < w1.heap.size := by have := hb'.out.size; rw [sz.out] at this; omega
      have hbF : Hid (Below w.heap.size w w1) := bel.out.trans (hb'.out.mono (by rw [sz.out]; omega))
      have bx0 : w1.cell? ⟨w.heap.size, 0, none⟩ = some (.int .i64 arch) := (hb'.out.cell (p := ⟨w.heap.size, 0, none⟩) (by show w.heap.size < W.heap.size; rw [sz.out]; omega)).trans (by rw [HW.out]; simp [go_sem])
      have bx1 : w1.cell? ⟨w.heap.size, 1, none⟩ = some (.int .i64 num) := (hb'.out.cell (p := ⟨w.heap.size, 1, none⟩) (by show w.heap.size < W.heap.size; rw [sz.out]; omega)).trans (by rw [HW.out]; simp [go_sem])
      have bx2 : w1.cell? ⟨w.heap.size, 2, none⟩ = some (.slice (some ⟨b, off, none⟩) 3 cap) := (hb'.out.cell (p := ⟨w.heap.size, 2, none⟩) (by show w.heap.size < W.heap.size; rw [sz.out]; omega)).trans (by rw [HW.out]; simp [go_sem])
      have d0 : w1.cell? ⟨b, off + 4, none⟩ = some (.int .i64 x) := (hb'.out.cell (p := ⟨b, off + 2 * 2, none⟩) HCS.out.1).trans (by rw [(HCS.out.2 2 (by omega)).1, ← HP.out])
      have d1 : w1.cell? ⟨b, off + 5, none⟩ = some (.int .i64 y) := (hb'.out.cell (p := ⟨b, off + 2 * 2 + 1, none⟩) HCS.out.1).trans (by rw [(HCS.out.2 2 (by omega)).2, ← HP.out])
      rw [hcb]
      clear hb
      go_wp2_with (go_at_call 37; refine (in4_any _ _ _ _).mono ?_; rintro e w' ⟨rfl, rfl⟩)
      go_ret2
      exact ⟨by rw [HV.out]; rfl, hbF.out.alloc (by omega) _⟩
    · obtain ⟨p, hp⟩ : ∃ p, p = ws.getD 2 (0, 0) := ⟨_, rfl⟩
      have HV : Hid (v = p.1) := by unfold Hid; rw [hv, hp]; rfl
      obtain ⟨x, y⟩ := p
      have HP : Hid ((x, y) = ws.getD 2 (0, 0)) := hp
      clear hv hp
      go_enter Try.func46, Try.ntmps46
      go_wp2_with fail
      refine HCALL.out.mono ?_
      rintro e w1 ⟨rfl, hb⟩
      have hb' : Hid (Below W.heap.size W w1) := by rw [HW.out]; exact hb
      have hz : w.heap.size < w1.heap.size := by have := hb'.out.size; rw [sz.out] at this; omega
      have hbF : Hid (Below w.heap.size w w1) := bel.out.trans (hb'.out.mono (by rw [sz.out]; omega))
      have bx0 : w1.cell? ⟨w.heap.size, 0, none⟩ = some (.int .i64 arch) := (hb'.out.cell (p := ⟨w.heap.size, 0, none⟩) (by show w.heap.size < W.heap.size; rw [sz.out]; omega)).trans (by rw [HW.out]; simp [go_sem])
      have bx1 : w1.cell? ⟨w.heap.size, 1, none⟩ = some (.int .i64 num) := (hb'.out.cell (p := ⟨w.heap.size, 1, none⟩) (by show w.heap.size < W.heap.size; rw [sz.out]; omega)).trans (by rw [HW.out]; simp [go_sem])
      have bx2 : w1.cell? ⟨w.heap.size, 2, none⟩ = some (.slice (some ⟨b, off, none⟩) 3 cap) := (hb'.out.cell (p := ⟨w.heap.size, 2, none⟩) (by show w.heap.size < W.heap.size; rw [sz.out]; omega)).trans (by rw [HW.out]; simp [go_sem])
      have d0 : w1.cell? ⟨b, off + 4, none⟩ = some (.int .i64 x) := (hb'.out.cell (p := ⟨b, off + 2 * 2, none⟩) HCS.out.1).trans (by rw [(HCS.out.2 2 (by omega)).1, ← HP.out])
      have d1 : w1.cell? ⟨b, off + 5, none⟩ = some (.int .i64 y) := (hb'.out.cell (p := ⟨b, off + 2 * 2 + 1, none⟩) HCS.out.1).trans (by rw [(HCS.out.2 2 (by omega)).2, ← HP.out])
      rw [hcb]
      clear hb
      go_wp2_with (go_at_call 37; refine (in4_any _ _ _ _).mono ?_; rintro e w' ⟨rfl, rfl⟩)
      go_ret2
      exact ⟨by rw [HV.out]; rfl, hbF.out.alloc (by omega) _⟩

end Go.Proofs.Ytaigoggoibdgbaa
