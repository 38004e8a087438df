/- What the laws' helpers toCond and eqCond answer. -/
import Derived.Test.YthflflhcbnianaaRowz
namespace Go.Proofs.Ythflflhcbnianaa
open Go.RowKit
set_option linter.unusedVariables false

set_option maxRecDepth 100000 in
set_option maxHeartbeats 2000000 in
theorem toCond_any (a mh ml cm vh vl : Int) (w : World) : Calls Try.prog 5 #[.agg #[.int .i64 a, .int .i64 mh, .int .i64 ml, .int .i64 cm, .int .i64 vh, .int .i64 vl]] w fun e w' => e = .returned (.agg #[.int .i64 a, .int .i64 mh, .int .i64 ml, .int .i64 cm, .int .i64 vh, .int .i64 vl]) ∧ Ext w w' := by
  go_enter Try.func5, Try.ntmps5
  go_wp2_with fail
  refine (toWide_any mh ml _).mono ?_
  rintro e w1 ⟨rfl, hb⟩
  have hsz : w.heap.size + 3 ≤ w1.heap.size := by have := hb.size; simp at this; omega
  obtain ⟨hc, hf⟩ := bcell hb
  have HW : Hid (Ext w w1) := Below.trans (by go_grown) (hb.mono (by simp; omega))
  have o0 : w1.cell? ⟨w.heap.size + 1 + 1, 0, none⟩ = some (.int .i64 a) := by rw [hc _ _ (by go_size)]; simp [go_sem]
  have o1 : w1.cell? ⟨w.heap.size + 1 + 1, 1, none⟩ = some (.int .i64 0) := by rw [hc _ _ (by go_size)]; simp [go_sem]
  have o2 : w1.cell? ⟨w.heap.size + 1 + 1, 2, none⟩ = some (.int .i64 0) := by rw [hc _ _ (by go_size)]; simp [go_sem]
  have o3 : w1.cell? ⟨w.heap.size + 1 + 1, 3, none⟩ = some (.int .i64 0) := by rw [hc _ _ (by go_size)]; simp [go_sem]
  have o4 : w1.cell? ⟨w.heap.size + 1 + 1, 4, none⟩ = some (.int .i64 0) := by rw [hc _ _ (by go_size)]; simp [go_sem]
  have o5 : w1.cell? ⟨w.heap.size + 1 + 1, 5, none⟩ = some (.int .i64 0) := by rw [hc _ _ (by go_size)]; simp [go_sem]
  have b3 : w1.cell? ⟨w.heap.size, 3, none⟩ = some (.int .i64 cm) := by rw [hc _ _ (by go_size)]; simp [go_sem]
  have b4 : w1.cell? ⟨w.heap.size, 4, none⟩ = some (.int .i64 vh) := by rw [hc _ _ (by go_size)]; simp [go_sem]
  have b5 : w1.cell? ⟨w.heap.size, 5, none⟩ = some (.int .i64 vl) := by rw [hc _ _ (by go_size)]; simp [go_sem]
  have p : ∀ i, i < 6 → w1.cell? ⟨w.heap.size + 1, i, none⟩ = some (.int .i64 0) := fun i hi => by
    rw [hc _ _ (by go_size)]
    obtain rfl | rfl | rfl | rfl | rfl | rfl : i = 0 ∨ i = 1 ∨ i = 2 ∨ i = 3 ∨ i = 4 ∨ i = 5 := by omega
    all_goals simp [go_sem]
  have f1 : ∀ o, w1.frozen? ⟨w.heap.size + 1 + 1, o, none⟩ = false := fun o => by rw [hf _ _ (by go_size)]; simp [go_sem]
  have f2 : ∀ o, w1.frozen? ⟨w.heap.size + 1, o, none⟩ = false := fun o => by rw [hf _ _ (by go_size)]; simp [go_sem]
  obtain ⟨p0, p1, p2, p3, p4, p5⟩ := (⟨p 0 (by omega), p 1 (by omega), p 2 (by omega), p 3 (by omega), p 4 (by omega), p 5 (by omega)⟩ : _ ∧ _ ∧ _ ∧ _ ∧ _ ∧ _)
  clear hb hc hf p
  go_wp2_with fail
  refine (toWide_any vh vl _).mono ?_
  rintro e w2 ⟨rfl, hb⟩
  have hsz2 : w.heap.size + 3 ≤ w2.heap.size := by have := hb.size; simp [World.size_setCell] at this; omega
  obtain ⟨hc, hf⟩ := bcell hb
  simp only [World.size_setCell] at hc hf
  have HW2 : Hid (Ext w w2) := by
    have h1 := ((HW.out.setCell (p := ⟨w.heap.size + 1 + 1, 1, none⟩) (show w.heap.size ≤ w.heap.size + 1 + 1 by omega) (.int .i64 mh)).setCell (p := ⟨w.heap.size + 1 + 1, 2, none⟩) (show w.heap.size ≤ w.heap.size + 1 + 1 by omega) (.int .i64 ml)).setCell (p := ⟨w.heap.size + 1 + 1, 3, none⟩) (show w.heap.size ≤ w.heap.size + 1 + 1 by omega) (.int .i64 cm)
    exact h1.trans (hb.mono h1.size)
  have u0 : w2.cell? ⟨w.heap.size + 1 + 1, 0, none⟩ = some (.int .i64 a) := by rw [hc _ _ (by omega)]; simp [go_sem, *]
  have u1 : w2.cell? ⟨w.heap.size + 1 + 1, 1, none⟩ = some (.int .i64 mh) := by rw [hc _ _ (by omega)]; simp [go_sem, *]
  have u2 : w2.cell? ⟨w.heap.size + 1 + 1, 2, none⟩ = some (.int .i64 ml) := by rw [hc _ _ (by omega)]; simp [go_sem, *]
  have u3 : w2.cell? ⟨w.heap.size + 1 + 1, 3, none⟩ = some (.int .i64 cm) := by rw [hc _ _ (by omega)]; simp [go_sem, *]
  have u4 : w2.cell? ⟨w.heap.size + 1 + 1, 4, none⟩ = some (.int .i64 0) := by rw [hc _ _ (by omega)]; simp [go_sem, *]
  have u5 : w2.cell? ⟨w.heap.size + 1 + 1, 5, none⟩ = some (.int .i64 0) := by rw [hc _ _ (by omega)]; simp [go_sem, *]
  have r0 : w2.cell? ⟨w.heap.size + 1, 0, none⟩ = some (.int .i64 0) := by rw [hc _ _ (by omega)]; simp [go_sem, *]
  have r1 : w2.cell? ⟨w.heap.size + 1, 1, none⟩ = some (.int .i64 0) := by rw [hc _ _ (by omega)]; simp [go_sem, *]
  have r2 : w2.cell? ⟨w.heap.size + 1, 2, none⟩ = some (.int .i64 0) := by rw [hc _ _ (by omega)]; simp [go_sem, *]
  have r3 : w2.cell? ⟨w.heap.size + 1, 3, none⟩ = some (.int .i64 0) := by rw [hc _ _ (by omega)]; simp [go_sem, *]
  have r4 : w2.cell? ⟨w.heap.size + 1, 4, none⟩ = some (.int .i64 0) := by rw [hc _ _ (by omega)]; simp [go_sem, *]
  have r5 : w2.cell? ⟨w.heap.size + 1, 5, none⟩ = some (.int .i64 0) := by rw [hc _ _ (by omega)]; simp [go_sem, *]
  have k1 : ∀ o, w2.frozen? ⟨w.heap.size + 1 + 1, o, none⟩ = false := fun o => by rw [hf _ _ (by omega)]; simp only [World.frozen?_setCell]; exact f1 o
  have k2 : ∀ o, w2.frozen? ⟨w.heap.size + 1, o, none⟩ = false := fun o => by rw [hf _ _ (by omega)]; simp only [World.frozen?_setCell]; exact f2 o
  clear hb hc hf f1 f2 o0 o1 o2 o3 o4 o5 b3 b4 b5 p0 p1 p2 p3 p4 p5 HW hsz
  go_wp2
  refine bodyPost_ret (v := .agg #[.int .i64 a, .int .i64 mh, .int .i64 ml, .int .i64 cm, .int .i64 vh, .int .i64 vl]) (by simp [results, Try.results5, go_sem, *]) rfl ⟨rfl, ?_⟩
  have hw := HW2.out
  go_grown

end Go.Proofs.Ythflflhcbnianaa
