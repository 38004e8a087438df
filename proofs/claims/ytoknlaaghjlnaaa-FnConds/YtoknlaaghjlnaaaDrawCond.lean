/- What spec's l09Cond answers: a right condition. -/
import Derived.Test.YtoknlaaghjlnaaaDraw4
import Derived.Test.YtoknlaaghjlnaaaPolMath
namespace Go.Proofs.Ytoknlaaghjlnaaa
open Go.RowKit
set_option linter.unusedVariables false

theorem condB_mk {ag mh ml cm vh vl : Int} (h1 : 0 ≤ ag ∧ ag ≤ 2) (h2 : 1 ≤ cm ∧ cm ≤ 6) (h3 : wideB (mh, ml) = true) (h4 : wideB (vh, vl) = true) : condB ⟨ag, mh, ml, cm, vh, vl⟩ = true := by
  unfold condB
  rw [inB_true.2 h1, inB_true.2 h2, h3, h4]
  rfl

set_option maxRecDepth 100000 in
set_option maxHeartbeats 2000000 in
theorem cond_any (p : Nat) (a : Option Addr) (len cap : Nat) (w : World) (hC : Cur w p a len cap) :
    Calls Try.prog 57 #[.pointer (some ⟨p, 0, none⟩)] w fun e w' => ∃ ag mh ml cm vh vl : Int, condB ⟨ag, mh, ml, cm, vh, vl⟩ = true ∧ e = .returned (.agg #[.int .i64 ag, .int .i64 mh, .int .i64 ml, .int .i64 cm, .int .i64 vh, .int .i64 vl]) ∧ Cur w' p a len cap ∧ w.grownBy w' (some p) := by
  have hp := hC.lt
  have HC : Hid (Cur w p a len cap) := hC
  clear hC
  go_enter Try.func57, Try.ntmps57
  go_wp2_with fail
  refine (below_any 3 p a len cap _ (HC.out.alloc _) (by omega)).mono ?_
  rintro e w1 ⟨ag, hag, _, _, rfl, hc1, hg1⟩
  have hag3 := hag (by omega)
  have r1 := (Blk.new w [.int .i64 0, .int .i64 0, .int .i64 0, .int .i64 0, .int .i64 0, .int .i64 0] 44).grown hg1 (ne_some (by omega))
  have HG1 : Hid (w.grownBy w1 (some p)) := grown_trans (grown_alloc (grown_refl w _) _) hg1
  have HC1 : Hid (Cur w1 p a len cap) := hc1
  clear hg1 hc1 hag
  go_wp2_with fail
  refine (below_any 6 p a len cap _ HC1.out (by omega)).mono ?_
  rintro e w2 ⟨cm, hcm, _, _, rfl, hc2, hg2⟩
  have hcm6 := hcm (by omega)
  have r2 := r1.grown hg2 (ne_some (by omega))
  have HG2 : Hid (w.grownBy w2 (some p)) := grown_trans HG1.out hg2
  have HC2 : Hid (Cur w2 p a len cap) := hc2
  clear hg2 hc2 hcm r1 HG1 HC1
  go_wp2_with fail
  refine (wide_any p a len cap _ HC2.out).mono ?_
  rintro e w3 ⟨vh, vl, hv, rfl, hc3, hg3⟩
  have r3 := r2.grown hg3 (ne_some (by omega))
  have HG3 : Hid (w.grownBy w3 (some p)) := grown_trans HG2.out hg3
  have HC3 : Hid (Cur w3 p a len cap) := hc3
  have hs3 := r3.lt
  have hp3 := hc3.lt
  clear hg3 hc3 r2 HG2 HC2
  go_wp2_with fail
  refine (once_any 3 p a len cap _ (HC3.out.alloc _) (by omega)).mono ?_
  rintro e w4 ⟨b, rfl, hc4, hg4⟩
  have r4 := (r3.alloc (.cells #[.int .i64 (ag : Int), .int .i64 4294967295, .int .i64 4294967295, .int .i64 (1 + (cm : Int)), .int .i64 vh, .int .i64 vl] 44)).grown hg4 (ne_some (by omega))
  have x4 := (Blk.new w3 [.int .i64 (ag : Int), .int .i64 4294967295, .int .i64 4294967295, .int .i64 (1 + (cm : Int)), .int .i64 vh, .int .i64 vl] 44).grown hg4 (ne_some (by omega))
  have HG4 : Hid (w.grownBy w4 (some p)) := grown_trans (grown_alloc HG3.out _) hg4
  have HC4 : Hid (Cur w4 p a len cap) := hc4
  have hn4 : w.heap.size ≠ w3.heap.size := by omega
  clear hg4 hc4 r3 HG3 HC3
  have h1 : (0 : Int) ≤ (ag : Int) ∧ (ag : Int) ≤ 2 := by omega
  have h2 : (1 : Int) ≤ 1 + (cm : Int) ∧ 1 + (cm : Int) ≤ 6 := by omega
  generalize (ag : Int) = A at *
  generalize 1 + (cm : Int) = M at *
  cases b
  · obtain ⟨q0, q1, q2, q3, q4, q5⟩ := (⟨x4.cell 0 _ rfl, x4.cell 1 _ rfl, x4.cell 2 _ rfl, x4.cell 3 _ rfl, x4.cell 4 _ rfl, x4.cell 5 _ rfl⟩ : _ ∧ _ ∧ _ ∧ _ ∧ _ ∧ _)
    obtain ⟨s0, s1, s2, s3, s4, s5⟩ := (⟨r4.cell 0 _ rfl, r4.cell 1 _ rfl, r4.cell 2 _ rfl, r4.cell 3 _ rfl, r4.cell 4 _ rfl, r4.cell 5 _ rfl⟩ : _ ∧ _ ∧ _ ∧ _ ∧ _ ∧ _)
    have fr := r4.free
    have hs4 := r4.lt
    have HB : Hid (condB ⟨A, 4294967295, 4294967295, M, vh, vl⟩ = true) := condB_mk h1 h2 (by decide) hv
    clear x4 r4 h1 h2 hv
    go_wp2
    refine bodyPost_ret (v := .agg #[.int .i64 A, .int .i64 4294967295, .int .i64 4294967295, .int .i64 M, .int .i64 vh, .int .i64 vl]) (by simp [results, Try.results57, go_sem, *]) rfl ⟨A, _, _, M, vh, vl, HB.out, rfl, ?_, ?_⟩
    · exact (((((HC4.out.store HC.out (by omega) _ _).store HC.out (by omega) _ _).store HC.out (by omega) _ _).store HC.out (by omega) _ _).store HC.out (by omega) _ _).store HC.out (by omega) _ _
    · exact grown_store (grown_store (grown_store (grown_store (grown_store (grown_store HG4.out (by omega) _ _) (by omega) _ _) (by omega) _ _) (by omega) _ _) (by omega) _ _) (by omega) _ _
  · go_wp2_with fail
    refine (wide_any p a len cap _ HC4.out).mono ?_
    rintro e w5 ⟨mh, ml, hm, rfl, hc5, hg5⟩
    have r5 := r4.grown hg5 (ne_some (by omega))
    have x5 := x4.grown hg5 (ne_some (by omega))
    have HG5 : Hid (w.grownBy w5 (some p)) := grown_trans HG4.out hg5
    have HC5 : Hid (Cur w5 p a len cap) := hc5
    obtain ⟨q0, q1, q2, q3, q4, q5⟩ := (⟨x5.cell 0 _ rfl, x5.cell 1 _ rfl, x5.cell 2 _ rfl, x5.cell 3 _ rfl, x5.cell 4 _ rfl, x5.cell 5 _ rfl⟩ : _ ∧ _ ∧ _ ∧ _ ∧ _ ∧ _)
    obtain ⟨s0, s1, s2, s3, s4, s5⟩ := (⟨r5.cell 0 _ rfl, r5.cell 1 _ rfl, r5.cell 2 _ rfl, r5.cell 3 _ rfl, r5.cell 4 _ rfl, r5.cell 5 _ rfl⟩ : _ ∧ _ ∧ _ ∧ _ ∧ _ ∧ _)
    have fr := r5.free
    have fx := x5.free
    have hs5 := r5.lt
    have HB : Hid (condB ⟨A, mh, ml, M, vh, vl⟩ = true) := condB_mk h1 h2 hm hv
    clear x5 r5 x4 r4 h1 h2 hv hm hc5 hg5 HG4 HC4
    go_wp2
    refine bodyPost_ret (v := .agg #[.int .i64 A, .int .i64 mh, .int .i64 ml, .int .i64 M, .int .i64 vh, .int .i64 vl]) (by simp [results, Try.results57, go_sem, *]) rfl ⟨A, _, _, M, vh, vl, HB.out, rfl, ?_, ?_⟩
    · exact (((((((HC5.out.store HC.out (by omega) _ _).store HC.out (by omega) _ _).store HC.out (by omega) _ _).store HC.out (by omega) _ _).store HC.out (by omega) _ _).store HC.out (by omega) _ _).store HC.out (by omega) _ _).store HC.out (by omega) _ _
    · exact grown_store (grown_store (grown_store (grown_store (grown_store (grown_store (grown_store (grown_store HG5.out (by omega) _ _) (by omega) _ _) (by omega) _ _) (by omega) _ _) (by omega) _ _) (by omega) _ _) (by omega) _ _) (by omega) _ _

end Go.Proofs.Ytoknlaaghjlnaaa
