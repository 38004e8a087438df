/- What the draws of any call, of a place and of a half answer. -/
import Derived.Test.YtoknlaaghjlnaaaDraw4
namespace Go.Proofs.Ytoknlaaghjlnaaa
open Go.RowKit
set_option linter.unusedVariables false

/-- Wide numbers without the first one. -/
theorem Wides.tail {w : World} {b off : Nat} {p : Int × Int} {ws : List (Int × Int)} (h : Wides w (some ⟨b, off, none⟩) (p :: ws)) : Wides w (some ⟨b, off + 2, none⟩) ws := fun hp => by
  obtain ⟨b', off', ha, hb, hc⟩ := h (by simp)
  injection ha with ha
  injection ha with h1 h2 h3
  subst h1 h2
  refine ⟨b, off + 2, rfl, hb, fun j hj => ?_⟩
  have := hc (j + 1) (by simpa using hj)
  have e1 : off + 2 + j * 2 = off + (j + 1) * 2 := by omega
  rw [e1]
  simpa using this

/-- The high half of the number at k is another one. -/
theorem Wides.setHi {w : World} {b off : Nat} {ws : List (Int × Int)} (h : Wides w (some ⟨b, off, none⟩) ws) (k : Nat) (hk : k < ws.length) (z : Int) : Wides (w.setCell ⟨b, off + k * 2, none⟩ (.int .i64 z)) (some ⟨b, off, none⟩) (ws.set k (z, (ws.getD k (0, 0)).2)) := fun hp => by
  obtain ⟨b', off', ha, hb, hc⟩ := h (by omega)
  injection ha with ha
  injection ha with h1 h2 h3
  subst h1 h2
  refine ⟨b, off, rfl, by rw [World.size_setCell]; exact hb, fun j hj => ?_⟩
  rw [List.length_set] at hj
  obtain ⟨e1, e2⟩ := hc j hj
  by_cases hjk : j = k
  · subst hjk
    rw [World.cell?_setCell_other w _ ⟨b, off + j * 2 + 1, none⟩ _ (by simp), e2, World.cell?_setCell_same _ _ _ e1]
    simp [List.getD_eq_getElem?_getD, hj]
  · rw [World.cell?_setCell_other _ _ _ _ (by first | (simp; done) | (simp; omega)), World.cell?_setCell_other _ _ _ _ (by first | (simp; done) | (simp; omega)), e1, e2]
    simp [List.getD_eq_getElem?_getD, Ne.symm hjk]

theorem Wides.grown {w w' : World} {b off : Nat} {ws : List (Int × Int)} {row : Option Nat} (h : Wides w (some ⟨b, off, none⟩) ws) (hg : w.grownBy w' row) (hr : some b ≠ row) : Wides w' (some ⟨b, off, none⟩) ws := fun hp => by
  obtain ⟨b', off', ha, hb, hc⟩ := h hp
  injection ha with ha
  injection ha with h1 h2 h3
  subst h1 h2
  refine ⟨b, off, rfl, Nat.lt_of_lt_of_le hb hg.size, fun j hj => ?_⟩
  obtain ⟨e1, e2⟩ := hc j hj
  exact ⟨(hg.cell_far ⟨b, off + j * 2, none⟩ hb hr).trans e1, (hg.cell_far ⟨b, off + j * 2 + 1, none⟩ hb hr).trans e2⟩

set_option maxRecDepth 100000 in
set_option maxHeartbeats 4000000 in
theorem any_any (p : Nat) (a : Option Addr) (len cap : Nat) (w : World) (hC : Cur w p a len cap) :
    Calls Try.prog 46 #[.pointer (some ⟨p, 0, none⟩)] w fun e w' => ∃ (arch num : Int) (ws : List (Int × Int)) (v : Value), ws.length ≤ 3 ∧ e = .returned v ∧ RepNew w.heap.size arch num ws v w' ∧ Cur w' p a len cap ∧ w.grownBy w' (some p) := by
  have hp := hC.lt
  have HC : Hid (Cur w p a len cap) := hC
  clear hC
  go_enter Try.func46, Try.ntmps46
  go_wp2_with fail
  refine (below_any 10 p a len cap _ (HC.out.alloc _) (by omega)).mono ?_
  rintro e w1 ⟨k, _, _, _, rfl, hc1, hg1⟩
  have r1 := (Blk.new w [.int .i64 0, .int .i64 0, .slice none 0 0] 29).grown hg1 (ne_some (by omega))
  have HG1 : Hid (w.grownBy w1 (some p)) := grown_trans (grown_alloc (grown_refl w _) _) hg1
  have HC1 : Hid (Cur w1 p a len cap) := hc1
  have hs1 := r1.lt
  clear hg1 hc1
  go_wp2_with fail
  refine (call_any p a len cap _ HC1.out).mono ?_
  rintro e w2 ⟨arch, num, ws, v, hcb, rfl, ⟨av, cv, rfl, hcv, hw, hf, hz⟩, hc2, hg2⟩
  have r2 := r1.grown hg2 (ne_some (by omega))
  have hpX := hc2.lt
  obtain ⟨p0, ⟨y1, y2⟩, p2, rfl⟩ : ∃ p0 p1 p2, ws = [p0, p1, p2] := by
    simp only [callB, Bool.and_eq_true, decide_eq_true_eq] at hcb
    match ws, hcb.1.2 with
    | [p0, p1, p2], _ => exact ⟨p0, p1, p2, rfl⟩
  obtain ⟨b, off, rfl, hblt, hcs⟩ := hw (by simp)
  obtain ⟨c', rfl⟩ : ∃ c', cv = c' + 3 := ⟨cv - 3, by simp at hcv; omega⟩
  have hfb := hf b off rfl
  have hzb := hz b off rfl
  have d2 : w2.cell? ⟨b, off + 2, none⟩ = some (.int .i64 y1) := (hcs 1 (by simp)).1
  have HI : Hid (Wides w2 (some ⟨b, off, none⟩) [p0, (y1, y2), p2] ∧ Cur w2 p a len cap ∧ w.grownBy w2 (some p)) := ⟨hw, hc2, grown_trans HG1.out hg2⟩
  have hsX := r2.lt
  have hbX : b ≠ w2.heap.size := by omega
  have hXb : w2.heap.size ≠ b := by omega
  have hpX2 : p ≠ w2.heap.size := by omega
  have hbR : b ≠ w.heap.size := by omega
  have hXR : w.heap.size ≠ w2.heap.size := by omega
  have r3 := r2.alloc (.cells #[.int .i64 arch, .int .i64 num, .slice (some ⟨b, off, none⟩) 3 (c' + 3)] 29)
  have x3 := Blk.new w2 [.int .i64 arch, .int .i64 num, .slice (some ⟨b, off, none⟩) 3 (c' + 3)] 29
  have HJ : Hid (Wides (w2.alloc (.cells #[.int .i64 arch, .int .i64 num, .slice (some ⟨b, off, none⟩) 3 (c' + 3)] 29)) (some ⟨b, off, none⟩) [p0, (y1, y2), p2] ∧ Cur (w2.alloc (.cells #[.int .i64 arch, .int .i64 num, .slice (some ⟨b, off, none⟩) 3 (c' + 3)] 29)) p a len cap ∧ w.grownBy (w2.alloc (.cells #[.int .i64 arch, .int .i64 num, .slice (some ⟨b, off, none⟩) 3 (c' + 3)] 29)) (some p)) := ⟨HI.out.1.below (Ext.one _ _) (Nat.le_refl _), HI.out.2.1.alloc _, grown_alloc HI.out.2.2 _⟩
  have hz3 : ∀ i, (w2.alloc (.cells #[.int .i64 arch, .int .i64 num, .slice (some ⟨b, off, none⟩) 3 (c' + 3)] 29)).frozen? ⟨b, i, none⟩ = false := fun i => by
    rw [(Ext.one w2 (.cells #[.int .i64 arch, .int .i64 num, .slice (some ⟨b, off, none⟩) 3 (c' + 3)] 29)).frozen (p := ⟨b, i, none⟩) hblt]; exact hzb i
  have d3 : (w2.alloc (.cells #[.int .i64 arch, .int .i64 num, .slice (some ⟨b, off, none⟩) 3 (c' + 3)] 29)).cell? ⟨b, off + 2, none⟩ = some (.int .i64 y1) := by
    rw [(Ext.one w2 (.cells #[.int .i64 arch, .int .i64 num, .slice (some ⟨b, off, none⟩) 3 (c' + 3)] 29)).cell (p := ⟨b, off + 2, none⟩) hblt]; exact d2
  clear r1 hcs hw hf hz hc2 hg2 HG1 HC1 hcb hcv
  have R2 : Hid (Blk w2 w.heap.size [.int .i64 0, .int .i64 0, .slice none 0 0] 29) := r2
  clear r2
  by_cases h0 : (k : Int) = 0
  · have hk0 : ((k : Int) == 0) = true := by simpa using h0
    go_wp2_with fail
    refine (pick_list [-1, 4294967296] _ p a len cap _ (HJ.out.2.1.alloc _) (by have := Blk.new (w2.alloc (.cells #[.int .i64 arch, .int .i64 num, .slice (some ⟨b, off, none⟩) 3 (c' + 3)] 29)) [.int .i64 (-1), .int .i64 4294967296] 3; simpa using this) (by omega) (by simp) (by simp)).mono ?_
    rintro e w4 ⟨z, _, rfl, hc4, hg4⟩
    have x4 := (x3.alloc (.cells #[.int .i64 (-1), .int .i64 4294967296] 3)).grown hg4 (ne_some (by omega))
    have r4 := (r3.alloc (.cells #[.int .i64 (-1), .int .i64 4294967296] 3)).grown hg4 (ne_some (by omega))
    have hbp : b ≠ p := by omega
    have HK4 : Hid (Wides w4 (some ⟨b, off, none⟩) [p0, (y1, y2), p2] ∧ Cur w4 p a len cap ∧ w.grownBy w4 (some p)) := ⟨(HJ.out.1.below (Ext.one _ _) (Nat.le_refl _)).grown hg4 (ne_some hbp), hc4, grown_trans (grown_alloc HJ.out.2.2 _) hg4⟩
    have hz4 : ∀ i, w4.frozen? ⟨b, i, none⟩ = false := fun i => by
      rw [hg4.frozen_far ⟨b, i, none⟩ (by simp; omega) (ne_some hbp), (Ext.one (w2.alloc (.cells #[.int .i64 arch, .int .i64 num, .slice (some ⟨b, off, none⟩) 3 (c' + 3)] 29)) _).frozen (p := ⟨b, i, none⟩) (by simp; omega)]; exact hz3 i
    have hs4 := r4.lt
    have hs5 := x4.lt
    clear hc4 hg4 HJ r3 x3 hz3 d3
    have fX := x4.free
    obtain ⟨p1, p2', p3⟩ := (⟨x4.cell 0 _ rfl, x4.cell 1 _ rfl, x4.cell 2 _ rfl⟩ : _ ∧ _ ∧ _)
    have x5 : Blk (w4.setCell ⟨w2.heap.size, 1, none⟩ (.int .i64 z)) w2.heap.size [.int .i64 arch, .int .i64 z, .slice (some ⟨b, off, none⟩) 3 (c' + 3)] 29 := x4.set 1 _
    have r5 : Blk (w4.setCell ⟨w2.heap.size, 1, none⟩ (.int .i64 z)) w.heap.size [.int .i64 0, .int .i64 0, .slice none 0 0] 29 := r4.other (by omega) _ _
    have HK : Hid (Wides (w4.setCell ⟨w2.heap.size, 1, none⟩ (.int .i64 z)) (some ⟨b, off, none⟩) [p0, (y1, y2), p2] ∧ Cur (w4.setCell ⟨w2.heap.size, 1, none⟩ (.int .i64 z)) p a len cap ∧ w.grownBy (w4.setCell ⟨w2.heap.size, 1, none⟩ (.int .i64 z)) (some p)) := ⟨HK4.out.1.set _ (by omega) _, HK4.out.2.1.store HC.out (by omega) _ _, grown_store HK4.out.2.2 (by omega) _ _⟩
    have hz5 : ∀ i, (w4.setCell ⟨w2.heap.size, 1, none⟩ (.int .i64 z)).frozen? ⟨b, i, none⟩ = false := fun i => by rw [World.frozen?_setCell]; exact hz4 i
    clear r4 x4 HK4 hz4
    have fR := r5.free
    obtain ⟨q1, q2, q3, q4, q5, q6⟩ := (⟨x5.cell 0 _ rfl, x5.cell 1 _ rfl, x5.cell 2 _ rfl, r5.cell 0 _ rfl, r5.cell 1 _ rfl, r5.cell 2 _ rfl⟩ : _ ∧ _ ∧ _ ∧ _ ∧ _ ∧ _)
    clear r5 x5
    go_wp2
    refine bodyPost_ret (v := .agg #[.int .i64 arch, .int .i64 z, .slice (some ⟨b, off, none⟩) 3 (c' + 3)]) (by simp [results, Try.results46, go_sem, *]) rfl ?_
    have far : ∀ b' off', (some ⟨b, off, none⟩ : Option Addr) = some ⟨b', off', none⟩ → w.heap.size ≠ b' := fun b' off' e => by injection e with e; injection e with e1; omega
    refine ⟨arch, z, [p0, (y1, y2), p2], .agg #[.int .i64 arch, .int .i64 z, .slice (some ⟨b, off, none⟩) 3 (c' + 3)], by simp, rfl, ⟨(some ⟨b, off, none⟩), (c' + 3), rfl, by simp, ((HK.out.1.far far _ _).far far _ _).far far _ _, fun b' off' e => by injection e with e; injection e with e1; omega, fun b' off' e i => ?_⟩, ?_, ?_⟩
    · injection e with e; injection e with e1; subst e1; rw [World.frozen?_setCell, World.frozen?_setCell, World.frozen?_setCell]; exact hz5 i
    · exact ((HK.out.2.1.store HC.out (by omega) _ _).store HC.out (by omega) _ _).store HC.out (by omega) _ _
    · exact grown_store (grown_store (grown_store HK.out.2.2 (by omega) _ _) (by omega) _ _) (by omega) _ _
  have hk0 : ((k : Int) == 0) = false := by simpa using h0
  clear h0
  by_cases h1 : (k : Int) = 1
  · have hk1 : ((k : Int) == 1) = true := by simpa using h1
    obtain ⟨q4, q5, q6⟩ := (⟨R2.out.cell 0 _ rfl, R2.out.cell 1 _ rfl, R2.out.cell 2 _ rfl⟩ : _ ∧ _ ∧ _)
    have fR := R2.out.free
    clear HJ r3 x3 hz3 d3
    go_wp2
    refine bodyPost_ret (v := .agg #[.int .i64 arch, .int .i64 num, .slice (some ⟨b, off + 2, none⟩) 2 (c' + 2)]) (by simp [results, Try.results46, go_sem, *]) rfl ?_
    have far : ∀ b' off', ((some ⟨b, off + 2, none⟩) : Option Addr) = some ⟨b', off', none⟩ → w.heap.size ≠ b' := fun b' off' e => by injection e with e; injection e with e1; omega
    refine ⟨arch, num, [(y1, y2), p2], .agg #[.int .i64 arch, .int .i64 num, .slice (some ⟨b, off + 2, none⟩) 2 (c' + 2)], by simp, rfl, ⟨(some ⟨b, off + 2, none⟩), (c' + 2), rfl, by simp, ((((HI.out.1.tail).far far _ _).far far _ _).far far _ _).below (Ext.one _ _) (Nat.le_refl _), fun b' off' e => by injection e with e; injection e with e1; omega, fun b' off' e i => ?_⟩, ?_, ?_⟩
    · injection e with e; injection e with e1; subst e1; rw [(Ext.one _ _).frozen (p := ⟨b, i, none⟩) (by simp [World.size_setCell]; exact hblt), World.frozen?_setCell, World.frozen?_setCell, World.frozen?_setCell]; exact hzb i
    · exact (((HI.out.2.1.store HC.out (by omega) _ _).store HC.out (by omega) _ _).store HC.out (by omega) _ _).alloc _
    · exact grown_alloc (grown_store (grown_store (grown_store HI.out.2.2 (by omega) _ _) (by omega) _ _) (by omega) _ _) _
  have hk1 : ((k : Int) == 1) = false := by simpa using h1
  clear h1
  by_cases h2 : (k : Int) = 2
  · have hk2 : ((k : Int) == 2) = true := by simpa using h2
    obtain ⟨q4, q5, q6⟩ := (⟨R2.out.cell 0 _ rfl, R2.out.cell 1 _ rfl, R2.out.cell 2 _ rfl⟩ : _ ∧ _ ∧ _)
    have fR := R2.out.free
    clear HJ r3 x3 hz3 d3
    go_wp2
    refine bodyPost_ret (v := .agg #[.int .i64 arch, .int .i64 num, .slice (some ⟨b, off, none⟩) 3 (c' + 3)]) (by simp [results, Try.results46, go_sem, *]) rfl ?_
    have far : ∀ b' off', ((some ⟨b, off, none⟩) : Option Addr) = some ⟨b', off', none⟩ → w.heap.size ≠ b' := fun b' off' e => by injection e with e; injection e with e1; omega
    refine ⟨arch, num, [p0, (-1, y2), p2], .agg #[.int .i64 arch, .int .i64 num, .slice (some ⟨b, off, none⟩) 3 (c' + 3)], by simp, rfl, ⟨(some ⟨b, off, none⟩), (c' + 3), rfl, by simp, ((((HI.out.1.setHi 1 (by simp) (-1)).far far _ _).far far _ _).far far _ _).below (Ext.one _ _) (Nat.le_refl _), fun b' off' e => by injection e with e; injection e with e1; omega, fun b' off' e i => ?_⟩, ?_, ?_⟩
    · injection e with e; injection e with e1; subst e1; rw [(Ext.one _ _).frozen (p := ⟨b, i, none⟩) (by simp [World.size_setCell]; exact hblt), World.frozen?_setCell, World.frozen?_setCell, World.frozen?_setCell, World.frozen?_setCell]; exact hzb i
    · exact ((((HI.out.2.1.store HC.out (by omega) _ _).store HC.out (by omega) _ _).store HC.out (by omega) _ _).store HC.out (by omega) _ _).alloc _
    · exact grown_alloc (grown_store (grown_store (grown_store (grown_store HI.out.2.2 (by omega) _ _) (by omega) _ _) (by omega) _ _) (by omega) _ _) _
  have hk2 : ((k : Int) == 2) = false := by simpa using h2
  clear h2
  by_cases h3 : (k : Int) = 3
  · have hk3 : ((k : Int) == 3) = true := by simpa using h3
    obtain ⟨q4, q5, q6⟩ := (⟨R2.out.cell 0 _ rfl, R2.out.cell 1 _ rfl, R2.out.cell 2 _ rfl⟩ : _ ∧ _ ∧ _)
    have fR := R2.out.free
    clear HJ r3 x3 hz3 d3
    go_wp2
    refine bodyPost_ret (v := .agg #[.int .i64 4294967296, .int .i64 num, .slice (some ⟨b, off, none⟩) 3 (c' + 3)]) (by simp [results, Try.results46, go_sem, *]) rfl ?_
    have far : ∀ b' off', ((some ⟨b, off, none⟩) : Option Addr) = some ⟨b', off', none⟩ → w.heap.size ≠ b' := fun b' off' e => by injection e with e; injection e with e1; omega
    refine ⟨4294967296, num, [p0, (y1, y2), p2], .agg #[.int .i64 4294967296, .int .i64 num, .slice (some ⟨b, off, none⟩) 3 (c' + 3)], by simp, rfl, ⟨(some ⟨b, off, none⟩), (c' + 3), rfl, by simp, ((((HI.out.1).far far _ _).far far _ _).far far _ _).below (Ext.one _ _) (Nat.le_refl _), fun b' off' e => by injection e with e; injection e with e1; omega, fun b' off' e i => ?_⟩, ?_, ?_⟩
    · injection e with e; injection e with e1; subst e1; rw [(Ext.one _ _).frozen (p := ⟨b, i, none⟩) (by simp [World.size_setCell]; exact hblt), World.frozen?_setCell, World.frozen?_setCell, World.frozen?_setCell]; exact hzb i
    · exact (((HI.out.2.1.store HC.out (by omega) _ _).store HC.out (by omega) _ _).store HC.out (by omega) _ _).alloc _
    · exact grown_alloc (grown_store (grown_store (grown_store HI.out.2.2 (by omega) _ _) (by omega) _ _) (by omega) _ _) _
  · have hk3 : ((k : Int) == 3) = false := by simpa using h3
    obtain ⟨q4, q5, q6⟩ := (⟨R2.out.cell 0 _ rfl, R2.out.cell 1 _ rfl, R2.out.cell 2 _ rfl⟩ : _ ∧ _ ∧ _)
    have fR := R2.out.free
    clear HJ r3 x3 hz3 d3
    go_wp2
    refine bodyPost_ret (v := .agg #[.int .i64 arch, .int .i64 num, .slice (some ⟨b, off, none⟩) 3 (c' + 3)]) (by simp [results, Try.results46, go_sem, *]) rfl ?_
    have far : ∀ b' off', ((some ⟨b, off, none⟩) : Option Addr) = some ⟨b', off', none⟩ → w.heap.size ≠ b' := fun b' off' e => by injection e with e; injection e with e1; omega
    refine ⟨arch, num, [p0, (y1, y2), p2], .agg #[.int .i64 arch, .int .i64 num, .slice (some ⟨b, off, none⟩) 3 (c' + 3)], by simp, rfl, ⟨(some ⟨b, off, none⟩), (c' + 3), rfl, by simp, ((((HI.out.1).far far _ _).far far _ _).far far _ _).below (Ext.one _ _) (Nat.le_refl _), fun b' off' e => by injection e with e; injection e with e1; omega, fun b' off' e i => ?_⟩, ?_, ?_⟩
    · injection e with e; injection e with e1; subst e1; rw [(Ext.one _ _).frozen (p := ⟨b, i, none⟩) (by simp [World.size_setCell]; exact hblt), World.frozen?_setCell, World.frozen?_setCell, World.frozen?_setCell]; exact hzb i
    · exact (((HI.out.2.1.store HC.out (by omega) _ _).store HC.out (by omega) _ _).store HC.out (by omega) _ _).alloc _
    · exact grown_alloc (grown_store (grown_store (grown_store HI.out.2.2 (by omega) _ _) (by omega) _ _) (by omega) _ _) _

end Go.Proofs.Ytoknlaaghjlnaaa
