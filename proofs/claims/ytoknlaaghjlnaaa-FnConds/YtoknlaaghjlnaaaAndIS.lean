/- What impl's and spec's WideAnd answer, of any numbers. -/
import Derived.Test.YtoknlaaghjlnaaaWideIS
namespace Go.Proofs.Ytoknlaaghjlnaaa
open Go.RowKit
set_option linter.unusedVariables false

/-- Half by half, bit by bit; nothing when one is not right. -/
def andW (p q : Int × Int) : Int × Int := if wideB p && wideB q then (bits .and .i64 p.1 q.1, bits .and .i64 p.2 q.2) else (0, 0)

theorem andW_yes {a b c d : Int} (h : wideB (a, b) = true) (k : wideB (c, d) = true) : andW (a, b) (c, d) = (bits .and .i64 a c, bits .and .i64 b d) := by simp [andW, h, k]

theorem andW_no1 {a b c d : Int} (h : wideB (a, b) = false) : andW (a, b) (c, d) = (0, 0) := by simp [andW, h]

theorem andW_no2 {a b c d : Int} (h : wideB (c, d) = false) : andW (a, b) (c, d) = (0, 0) := by simp [andW, h]

theorem bcell {W w1 : World} (hb : Below W.heap.size W w1) : (∀ b o, b < W.heap.size → w1.cell? ⟨b, o, none⟩ = W.cell? ⟨b, o, none⟩) ∧ (∀ b o, b < W.heap.size → w1.frozen? ⟨b, o, none⟩ = W.frozen? ⟨b, o, none⟩) :=
  ⟨fun b o h => hb.cell (p := ⟨b, o, none⟩) h, fun b o h => hb.frozen (p := ⟨b, o, none⟩) h⟩

set_option maxHeartbeats 1600000 in
theorem iAnd_any (a b c d : Int) (w : World) : Calls Try.prog 61 #[.agg #[.int .i64 a, .int .i64 b], .agg #[.int .i64 c, .int .i64 d]] w fun e w' => e = .returned (.agg #[.int .i64 (andW (a, b) (c, d)).1, .int .i64 (andW (a, b) (c, d)).2]) ∧ Below w.heap.size w w' := by
  obtain ⟨W, hW⟩ : ∃ W, W = (((w.alloc (.cells #[.int .i64 a, .int .i64 b] 42)).alloc (.cells #[.int .i64 c, .int .i64 d] 42)).alloc (.cells #[.int .i64 0, .int .i64 0] 42)) := ⟨_, rfl⟩
  have sz : Hid (W.heap.size = w.heap.size + 1 + 1 + 1) := by unfold Hid; rw [hW]; simp
  have bel : Hid (Below w.heap.size w W) := by rw [hW]; exact (((Below.refl _ _).alloc (Nat.le_refl _) _).alloc (by simp) _).alloc (by simp; omega) _
  cases h0 : wideB (a, b)
  · rw [andW_no1 h0]
    go_enter Try.func61, Try.ntmps61
    go_wp2_with fail
    refine (iWide_any a b _).mono ?_
    rintro e w1 ⟨rfl, hb⟩
    have hb' : Hid (Below W.heap.size W w1) := by rw [hW]; exact hb
    obtain ⟨hc, hf⟩ := bcell hb
    rw [h0]
    go_wp2
    refine bodyPost_ret (v := .agg #[.int .i64 0, .int .i64 0]) (by simp [results, Try.results61, go_sem, hc]) rfl ⟨rfl, ?_⟩
    exact ((bel.out.trans (hb'.out.mono (by rw [sz.out]; omega))).setCell (by simp; omega) _).setCell (by simp; omega) _
  · cases h1 : wideB (c, d)
    · rw [andW_no2 h1]
      go_enter Try.func61, Try.ntmps61
      go_wp2_with fail
      refine (iWide_any a b _).mono ?_
      rintro e w1 ⟨rfl, hb⟩
      have hb' : Hid (Below W.heap.size W w1) := by rw [hW]; exact hb
      have hz1 : w.heap.size + 1 + 1 < w1.heap.size := by have := hb'.out.size; rw [sz.out] at this; omega
      obtain ⟨hc, hf⟩ := bcell hb
      rw [h0]
      go_wp2_with fail
      refine (iWide_any c d _).mono ?_
      rintro e w2 ⟨rfl, hb2⟩
      have hb2' : Hid (Below w1.heap.size w1 w2) := hb2
      obtain ⟨hc2, hf2⟩ := bcell hb2
      rw [h1]
      go_wp2
      refine bodyPost_ret (v := .agg #[.int .i64 0, .int .i64 0]) (by simp [results, Try.results61, go_sem, hc, hc2, hz1]) rfl ⟨rfl, ?_⟩
      exact (((bel.out.trans (hb'.out.mono (by rw [sz.out]; omega))).trans (hb2'.out.mono (by omega))).setCell (by simp; omega) _).setCell (by simp; omega) _
    · rw [andW_yes h0 h1]
      go_enter Try.func61, Try.ntmps61
      go_wp2_with fail
      refine (iWide_any a b _).mono ?_
      rintro e w1 ⟨rfl, hb⟩
      have hb' : Hid (Below W.heap.size W w1) := by rw [hW]; exact hb
      have hz1 : w.heap.size + 1 + 1 < w1.heap.size := by have := hb'.out.size; rw [sz.out] at this; omega
      have hz2 : w.heap.size + 1 < w1.heap.size := by omega
      have hz3 : w.heap.size < w1.heap.size := by omega
      obtain ⟨hc, hf⟩ := bcell hb
      rw [h0]
      go_wp2_with fail
      refine (iWide_any c d _).mono ?_
      rintro e w2 ⟨rfl, hb2⟩
      have hb2' : Hid (Below w1.heap.size w1 w2) := hb2
      obtain ⟨hc2, hf2⟩ := bcell hb2
      rw [h1]
      go_wp2
      refine bodyPost_ret (v := .agg #[.int .i64 (bits .and .i64 a c), .int .i64 (bits .and .i64 b d)]) (by simp [results, Try.results61, go_sem, hc, hc2, hz1]) rfl ⟨rfl, ?_⟩
      exact (((bel.out.trans (hb'.out.mono (by rw [sz.out]; omega))).trans (hb2'.out.mono (by omega))).setCell (by simp; omega) _).setCell (by simp; omega) _

set_option maxHeartbeats 1600000 in
theorem sAnd_any (a b c d : Int) (w : World) : Calls Try.prog 20 #[.agg #[.int .i64 a, .int .i64 b], .agg #[.int .i64 c, .int .i64 d]] w fun e w' => e = .returned (.agg #[.int .i64 (andW (a, b) (c, d)).1, .int .i64 (andW (a, b) (c, d)).2]) ∧ Below w.heap.size w w' := by
  obtain ⟨W, hW⟩ : ∃ W, W = (((w.alloc (.cells #[.int .i64 a, .int .i64 b] 42)).alloc (.cells #[.int .i64 c, .int .i64 d] 42)).alloc (.cells #[.int .i64 0, .int .i64 0] 42)) := ⟨_, rfl⟩
  have sz : Hid (W.heap.size = w.heap.size + 1 + 1 + 1) := by unfold Hid; rw [hW]; simp
  have bel : Hid (Below w.heap.size w W) := by rw [hW]; exact (((Below.refl _ _).alloc (Nat.le_refl _) _).alloc (by simp) _).alloc (by simp; omega) _
  cases h0 : wideB (a, b)
  · rw [andW_no1 h0]
    go_enter Try.func20, Try.ntmps20
    go_wp2_with fail
    refine (sWide_any a b _).mono ?_
    rintro e w1 ⟨rfl, hb⟩
    have hb' : Hid (Below W.heap.size W w1) := by rw [hW]; exact hb
    obtain ⟨hc, hf⟩ := bcell hb
    rw [h0]
    go_wp2
    refine bodyPost_ret (v := .agg #[.int .i64 0, .int .i64 0]) (by simp [results, Try.results20, go_sem, hc]) rfl ⟨rfl, ?_⟩
    exact ((bel.out.trans (hb'.out.mono (by rw [sz.out]; omega))).setCell (by simp; omega) _).setCell (by simp; omega) _
  · cases h1 : wideB (c, d)
    · rw [andW_no2 h1]
      go_enter Try.func20, Try.ntmps20
      go_wp2_with fail
      refine (sWide_any a b _).mono ?_
      rintro e w1 ⟨rfl, hb⟩
      have hb' : Hid (Below W.heap.size W w1) := by rw [hW]; exact hb
      have hz1 : w.heap.size + 1 + 1 < w1.heap.size := by have := hb'.out.size; rw [sz.out] at this; omega
      obtain ⟨hc, hf⟩ := bcell hb
      rw [h0]
      go_wp2_with fail
      refine (sWide_any c d _).mono ?_
      rintro e w2 ⟨rfl, hb2⟩
      have hb2' : Hid (Below w1.heap.size w1 w2) := hb2
      obtain ⟨hc2, hf2⟩ := bcell hb2
      rw [h1]
      go_wp2
      refine bodyPost_ret (v := .agg #[.int .i64 0, .int .i64 0]) (by simp [results, Try.results20, go_sem, hc, hc2, hz1]) rfl ⟨rfl, ?_⟩
      exact (((bel.out.trans (hb'.out.mono (by rw [sz.out]; omega))).trans (hb2'.out.mono (by omega))).setCell (by simp; omega) _).setCell (by simp; omega) _
    · rw [andW_yes h0 h1]
      go_enter Try.func20, Try.ntmps20
      go_wp2_with fail
      refine (sWide_any a b _).mono ?_
      rintro e w1 ⟨rfl, hb⟩
      have hb' : Hid (Below W.heap.size W w1) := by rw [hW]; exact hb
      have hz1 : w.heap.size + 1 + 1 < w1.heap.size := by have := hb'.out.size; rw [sz.out] at this; omega
      have hz2 : w.heap.size + 1 < w1.heap.size := by omega
      have hz3 : w.heap.size < w1.heap.size := by omega
      obtain ⟨hc, hf⟩ := bcell hb
      rw [h0]
      go_wp2_with fail
      refine (sWide_any c d _).mono ?_
      rintro e w2 ⟨rfl, hb2⟩
      have hb2' : Hid (Below w1.heap.size w1 w2) := hb2
      obtain ⟨hc2, hf2⟩ := bcell hb2
      rw [h1]
      go_wp2
      refine bodyPost_ret (v := .agg #[.int .i64 (bits .and .i64 a c), .int .i64 (bits .and .i64 b d)]) (by simp [results, Try.results20, go_sem, hc, hc2, hz1]) rfl ⟨rfl, ?_⟩
      exact (((bel.out.trans (hb'.out.mono (by rw [sz.out]; omega))).trans (hb2'.out.mono (by omega))).setCell (by simp; omega) _).setCell (by simp; omega) _

end Go.Proofs.Ytoknlaaghjlnaaa
