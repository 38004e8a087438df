/- What spec's l06Ins draws: a word that is right. -/
import Derived.Test.YtaigoggoibdgbaaMarkIns
namespace Go.Proofs.Ytaigoggoibdgbaa
open Go.RowKit
set_option linter.unusedVariables false

theorem sRes_any (a d : Nat) (w : World) (ha : a ≤ 5) (hd : d ≤ 4) : Calls Try.prog 56 #[.int .i64 (a : Int), .int .i64 (d : Int)] w fun e w' => e = .returned (.int .i64 ((65536 * a + d : Nat) : Int)) ∧ w = w' := by
  have h1 : inB (a : Int) 0 5 = true := inB_true.2 (by omega)
  have h2 : inB (d : Int) 0 65535 = true := inB_true.2 (by omega)
  have b1 : (a : Int) ≤ 5 := by omega
  have b2 : (d : Int) ≤ 4 := by omega
  go_enter Try.func56, Try.ntmps56
  go_wp2_with (go_at_call 37; refine (in_any _ _ _ _).mono ?_; rintro e w' ⟨rfl, rfl⟩)
  go_ret
  exact ⟨ret_int (a := 65536 * (a : Int) + (d : Int)) (by omega), rfl⟩

theorem half_any (p : Nat) (a : Option Addr) (len cap : Nat) (w : World) (hC : Cur w p a len cap) :
    Calls Try.prog 69 #[.pointer (some ⟨p, 0, none⟩)] w fun e w' => ∃ z : Nat, z ≤ 4294967295 ∧ e = .returned (.int .i64 (z : Int)) ∧ Cur w' p a len cap ∧ w.grownBy w' (some p) := by
  have HC : Hid (Cur w p a len cap) := hC
  clear hC
  go_enter Try.func69, Try.ntmps69
  go_wp2_with fail
  refine (below_any 12 p a len cap _ HC.out (by omega)).mono ?_
  rintro e w1 ⟨x, hx, _, _, rfl, hc1, hg1⟩
  have hx12 := hx (by omega)
  have HP : Hid (p < w1.heap.size) := hc1.lt
  have HC1 : Hid (Cur w1 p a len cap) := hc1
  clear hc1 hx
  go_wp2_with fail
  refine (pick_list [0, 1, 2, 3, 5, 7, 255, 4294967295, 2147483648, (x : Int)] _ p a len cap _ (HC1.out.alloc _) (Blk.new _ _ _) (by have := HP.out; omega) (by simp) (by simp)).mono ?_
  rintro e w2 ⟨z, hz, rfl, hc2, hg2⟩
  have hh : 0 ≤ z ∧ z ≤ 4294967295 := by
    simp only [List.mem_cons, List.not_mem_nil, or_false] at hz
    omega
  have HG : Hid (w.grownBy w2 (some p)) := grown_trans (grown_alloc hg1 _) hg2
  clear hg1 hg2 hz
  go_wp2
  go_ret
  exact ⟨z.toNat, by omega, ret_int (by omega), hc2, HG.out⟩

theorem Cur.store4 {w W : World} {p : Nat} {a : Option Addr} {len cap : Nat} (h : Cur W p a len cap) (h0 : Cur w p a len cap) {k : Nat} (hk : w.heap.size ≤ k) (x y z u : Int) : Cur (set4 W k x y z u) p a len cap :=
  (((h.store h0 hk 0 (.int .i64 x)).store h0 hk 1 (.int .i64 y)).store h0 hk 2 (.int .i64 z)).store h0 hk 3 (.int .i64 u)

theorem grown_store4 {W W' : World} {row : Option Nat} (h : W.grownBy W' row) {k : Nat} (hk : W.heap.size ≤ k) (x y z u : Int) : W.grownBy (set4 W' k x y z u) row :=
  grown_store (grown_store (grown_store (grown_store h hk 0 (.int .i64 x)) hk 1 (.int .i64 y)) hk 2 (.int .i64 z)) hk 3 (.int .i64 u)

/-- A word that was drawn: right, its ways short. -/
theorem okW_mk {o k y n : Int} (h : insP o k y n) : okW (o, k, y, n) = true := insB_true.2 h

set_option maxRecDepth 100000 in
set_option maxHeartbeats 4000000 in
theorem drawnIns_any (p : Nat) (a : Option Addr) (len cap : Nat) (w : World) (hC : Cur w p a len cap) :
    Calls Try.prog 54 #[.pointer (some ⟨p, 0, none⟩)] w fun e w' => ∃ o k y n : Nat, okW ((o : Int), (k : Int), (y : Int), (n : Int)) = true ∧ e = .returned (.agg #[.int .i64 (o : Int), .int .i64 (k : Int), .int .i64 (y : Int), .int .i64 (n : Int)]) ∧ Cur w' p a len cap ∧ w.grownBy w' (some p) := by
  have hp := hC.lt
  have HC : Hid (Cur w p a len cap) := hC
  clear hC
  go_enter Try.func54, Try.ntmps54
  go_wp2_with fail
  refine (below_any 8 p a len cap _ (HC.out.alloc _) (by omega)).mono ?_
  rintro e w1 ⟨x, hx, _, _, rfl, hc1, hg1⟩
  have hx8 := hx (by omega)
  have r1 := (Blk.new w (ints4 0 0 0 0) 34).grown hg1 (ne_some (by omega))
  have HG1 : Hid (w.grownBy w1 (some p)) := grown_trans (grown_alloc (grown_refl w _) _) hg1
  have HC1 : Hid (Cur w1 p a len cap) := hc1
  clear hg1 hc1 hx
  go_wp2_with fail
  refine (half_any p a len cap _ HC1.out).mono ?_
  rintro e w2 ⟨z, hz, rfl, hc2, hg2⟩
  have r2 := r1.grown hg2 (ne_some (by omega))
  have HG2 : Hid (w.grownBy w2 (some p)) := grown_trans HG1.out hg2
  have HC2 : Hid (Cur w2 p a len cap) := hc2
  have hs2 := r2.lt
  have hpw : p < w2.heap.size := hc2.lt
  have hz' : (z : Int) ≤ 4294967295 := by omega
  clear hg2 hc2 r1 HG1 HC1
  have h8 : x = 0 ∨ x = 1 ∨ x = 2 ∨ x = 3 ∨ x = 4 ∨ x = 5 ∨ x = 6 ∨ x = 7 := by omega
  clear hx8
  rcases h8 with rfl | rfl | rfl | rfl | rfl | rfl | rfl | rfl
  · have hop : (1 : Int) + ((0 : Nat) : Int) = 1 := rfl
    go_wp2_with fail
    refine (below_any 8 p a len cap _ (HC2.out.alloc _) (by omega)).mono ?_
    rintro e w3 ⟨y3, hy3, _, _, rfl, hc3, hg3⟩
    have b3' := hy3 (by omega)
    have b3 : (y3 : Int) ≤ 7 := by omega
    have d3 := (Blk.new w2 (ints4 1 z 0 0) 34).grown hg3 (ne_some (by omega))
    have r3 := (r2.alloc (.cells #[.int .i64 1, .int .i64 z, .int .i64 0, .int .i64 0] 34)).grown hg3 (ne_some (by omega))
    have HG3 : Hid (w.grownBy w3 (some p)) := grown_trans (grown_alloc HG2.out _) hg3
    have HC3 : Hid (Cur w3 p a len cap) := hc3
    clear hg3 hc3 r2
    obtain ⟨q0, q1, q2, q3⟩ := (⟨d3.cell 0 _ rfl, d3.cell 1 _ rfl, d3.cell 2 _ rfl, d3.cell 3 _ rfl⟩ : _ ∧ _ ∧ _ ∧ _)
    obtain ⟨s0, s1, s2, s3⟩ := (⟨r3.cell 0 _ rfl, r3.cell 1 _ rfl, r3.cell 2 _ rfl, r3.cell 3 _ rfl⟩ : _ ∧ _ ∧ _ ∧ _)
    have f1 := d3.free
    have f2 := r3.free
    have t1 := d3.lt
    have t2 := r3.lt
    have hne : w.heap.size ≠ w2.heap.size := by omega
    have hne2 : w2.heap.size ≠ w.heap.size := by omega
    clear d3 r3
    go_wp2
    refine bodyPost_ret (v := .agg #[.int .i64 1, .int .i64 (y3 : Int), .int .i64 0, .int .i64 0]) (by simp [results, Try.results54, go_sem, *]) rfl ⟨1, y3, 0, 0, okW_mk (by unfold insP; omega), rfl, (HC3.out.store HC.out (show w.heap.size ≤ w2.heap.size by omega) 1 (.int .i64 (y3 : Int))).store4 HC.out (Nat.le_refl _) 1 y3 0 0, grown_store4 (grown_store HG3.out (show w.heap.size ≤ w2.heap.size by omega) 1 (.int .i64 (y3 : Int))) (Nat.le_refl _) 1 y3 0 0⟩
  · have hop : (1 : Int) + ((1 : Nat) : Int) = 2 := rfl
    obtain ⟨s0, s1, s2, s3⟩ := (⟨r2.cell 0 _ rfl, r2.cell 1 _ rfl, r2.cell 2 _ rfl, r2.cell 3 _ rfl⟩ : _ ∧ _ ∧ _ ∧ _)
    have f2 := r2.free
    have hne : w.heap.size ≠ w2.heap.size := by omega
    have hne2 : w2.heap.size ≠ w.heap.size := by omega
    go_wp2
    refine bodyPost_ret (v := .agg #[.int .i64 2, .int .i64 (z : Int), .int .i64 0, .int .i64 0]) (by simp [results, Try.results54, go_sem, *]) rfl ⟨2, z, 0, 0, okW_mk (by unfold insP; omega), rfl, ?_, ?_⟩
    · exact (HC2.out.store4 HC.out (Nat.le_refl _) 2 z 0 0).alloc _
    · exact grown_alloc (grown_store4 HG2.out (Nat.le_refl _) 2 z 0 0) _
  · have hop : (1 : Int) + ((2 : Nat) : Int) = 3 := rfl
    go_wp2_with fail
    refine (below_any 4 p a len cap _ (HC2.out.alloc _) (by omega)).mono ?_
    rintro e w3 ⟨y3, hy3, _, _, rfl, hc3, hg3⟩
    have b3' := hy3 (by omega)
    have b3 : (y3 : Int) ≤ 3 := by omega
    have d3 := (Blk.new w2 (ints4 3 z 0 0) 34).grown hg3 (ne_some (by omega))
    have r3 := (r2.alloc (.cells #[.int .i64 3, .int .i64 z, .int .i64 0, .int .i64 0] 34)).grown hg3 (ne_some (by omega))
    have HG3 : Hid (w.grownBy w3 (some p)) := grown_trans (grown_alloc HG2.out _) hg3
    have HC3 : Hid (Cur w3 p a len cap) := hc3
    clear hg3 hc3 r2
    have x3 := d3.set 2 (.int .i64 (y3 : Int))
    have r3' := r3.other (show w.heap.size ≠ w2.heap.size by omega) 2 (.int .i64 (y3 : Int))
    have HG3' : Hid (w.grownBy (w3.setCell ⟨w2.heap.size, 2, none⟩ (.int .i64 (y3 : Int))) (some p)) := grown_store HG3.out (show w.heap.size ≤ w2.heap.size by omega) 2 (.int .i64 (y3 : Int))
    have HC3' : Hid (Cur (w3.setCell ⟨w2.heap.size, 2, none⟩ (.int .i64 (y3 : Int))) p a len cap) := HC3.out.store HC.out (show w.heap.size ≤ w2.heap.size by omega) 2 (.int .i64 (y3 : Int))
    have f0 := d3.free
    have g2 := d3.cell 2 _ rfl
    go_wp2_with fail
    refine (below_any 4 p a len cap _ HC3'.out (by omega)).mono ?_
    rintro e w4 ⟨y4, hy4, _, _, rfl, hc4, hg4⟩
    have b4' := hy4 (by omega)
    have b4 : (y4 : Int) ≤ 3 := by omega
    have d4 : Blk w4 w2.heap.size (ints4 3 z y3 0) 34 := Blk.grown (l := ints4 3 z y3 0) x3 hg4 (ne_some (by omega))
    have r4 := r3'.grown hg4 (ne_some (by omega))
    have HG4 : Hid (w.grownBy w4 (some p)) := grown_trans HG3'.out hg4
    have HC4 : Hid (Cur w4 p a len cap) := hc4
    clear hg4 hc4 r3 d3 r3' x3 f0 g2 HG3 HC3 HG3' HC3' 
    obtain ⟨q0, q1, q2, q3⟩ := (⟨d4.cell 0 _ rfl, d4.cell 1 _ rfl, d4.cell 2 _ rfl, d4.cell 3 _ rfl⟩ : _ ∧ _ ∧ _ ∧ _)
    obtain ⟨s0, s1, s2, s3⟩ := (⟨r4.cell 0 _ rfl, r4.cell 1 _ rfl, r4.cell 2 _ rfl, r4.cell 3 _ rfl⟩ : _ ∧ _ ∧ _ ∧ _)
    have f1 := d4.free
    have f2 := r4.free
    have t1 := d4.lt
    have t2 := r4.lt
    have hne : w.heap.size ≠ w2.heap.size := by omega
    have hne2 : w2.heap.size ≠ w.heap.size := by omega
    clear d4 r4
    go_wp2
    refine bodyPost_ret (v := .agg #[.int .i64 3, .int .i64 (z : Int), .int .i64 (y3 : Int), .int .i64 (y4 : Int)]) (by simp [results, Try.results54, go_sem, *]) rfl ⟨3, z, y3, y4, okW_mk (by unfold insP; omega), rfl, (HC4.out.store HC.out (show w.heap.size ≤ w2.heap.size by omega) 3 (.int .i64 (y4 : Int))).store4 HC.out (Nat.le_refl _) 3 z y3 y4, grown_store4 (grown_store HG4.out (show w.heap.size ≤ w2.heap.size by omega) 3 (.int .i64 (y4 : Int))) (Nat.le_refl _) 3 z y3 y4⟩
  · have hop : (1 : Int) + ((3 : Nat) : Int) = 4 := rfl
    go_wp2_with fail
    refine (below_any 4 p a len cap _ (HC2.out.alloc _) (by omega)).mono ?_
    rintro e w3 ⟨y3, hy3, _, _, rfl, hc3, hg3⟩
    have b3' := hy3 (by omega)
    have b3 : (y3 : Int) ≤ 3 := by omega
    have d3 := (Blk.new w2 (ints4 4 z 0 0) 34).grown hg3 (ne_some (by omega))
    have r3 := (r2.alloc (.cells #[.int .i64 4, .int .i64 z, .int .i64 0, .int .i64 0] 34)).grown hg3 (ne_some (by omega))
    have HG3 : Hid (w.grownBy w3 (some p)) := grown_trans (grown_alloc HG2.out _) hg3
    have HC3 : Hid (Cur w3 p a len cap) := hc3
    clear hg3 hc3 r2
    have x3 := d3.set 2 (.int .i64 (y3 : Int))
    have r3' := r3.other (show w.heap.size ≠ w2.heap.size by omega) 2 (.int .i64 (y3 : Int))
    have HG3' : Hid (w.grownBy (w3.setCell ⟨w2.heap.size, 2, none⟩ (.int .i64 (y3 : Int))) (some p)) := grown_store HG3.out (show w.heap.size ≤ w2.heap.size by omega) 2 (.int .i64 (y3 : Int))
    have HC3' : Hid (Cur (w3.setCell ⟨w2.heap.size, 2, none⟩ (.int .i64 (y3 : Int))) p a len cap) := HC3.out.store HC.out (show w.heap.size ≤ w2.heap.size by omega) 2 (.int .i64 (y3 : Int))
    have f0 := d3.free
    have g2 := d3.cell 2 _ rfl
    go_wp2_with fail
    refine (below_any 4 p a len cap _ HC3'.out (by omega)).mono ?_
    rintro e w4 ⟨y4, hy4, _, _, rfl, hc4, hg4⟩
    have b4' := hy4 (by omega)
    have b4 : (y4 : Int) ≤ 3 := by omega
    have d4 : Blk w4 w2.heap.size (ints4 4 z y3 0) 34 := Blk.grown (l := ints4 4 z y3 0) x3 hg4 (ne_some (by omega))
    have r4 := r3'.grown hg4 (ne_some (by omega))
    have HG4 : Hid (w.grownBy w4 (some p)) := grown_trans HG3'.out hg4
    have HC4 : Hid (Cur w4 p a len cap) := hc4
    clear hg4 hc4 r3 d3 r3' x3 f0 g2 HG3 HC3 HG3' HC3' 
    obtain ⟨q0, q1, q2, q3⟩ := (⟨d4.cell 0 _ rfl, d4.cell 1 _ rfl, d4.cell 2 _ rfl, d4.cell 3 _ rfl⟩ : _ ∧ _ ∧ _ ∧ _)
    obtain ⟨s0, s1, s2, s3⟩ := (⟨r4.cell 0 _ rfl, r4.cell 1 _ rfl, r4.cell 2 _ rfl, r4.cell 3 _ rfl⟩ : _ ∧ _ ∧ _ ∧ _)
    have f1 := d4.free
    have f2 := r4.free
    have t1 := d4.lt
    have t2 := r4.lt
    have hne : w.heap.size ≠ w2.heap.size := by omega
    have hne2 : w2.heap.size ≠ w.heap.size := by omega
    clear d4 r4
    go_wp2
    refine bodyPost_ret (v := .agg #[.int .i64 4, .int .i64 (z : Int), .int .i64 (y3 : Int), .int .i64 (y4 : Int)]) (by simp [results, Try.results54, go_sem, *]) rfl ⟨4, z, y3, y4, okW_mk (by unfold insP; omega), rfl, (HC4.out.store HC.out (show w.heap.size ≤ w2.heap.size by omega) 3 (.int .i64 (y4 : Int))).store4 HC.out (Nat.le_refl _) 4 z y3 y4, grown_store4 (grown_store HG4.out (show w.heap.size ≤ w2.heap.size by omega) 3 (.int .i64 (y4 : Int))) (Nat.le_refl _) 4 z y3 y4⟩
  · have hop : (1 : Int) + ((4 : Nat) : Int) = 5 := rfl
    go_wp2_with fail
    refine (below_any 4 p a len cap _ (HC2.out.alloc _) (by omega)).mono ?_
    rintro e w3 ⟨y3, hy3, _, _, rfl, hc3, hg3⟩
    have b3' := hy3 (by omega)
    have b3 : (y3 : Int) ≤ 3 := by omega
    have d3 := (Blk.new w2 (ints4 5 z 0 0) 34).grown hg3 (ne_some (by omega))
    have r3 := (r2.alloc (.cells #[.int .i64 5, .int .i64 z, .int .i64 0, .int .i64 0] 34)).grown hg3 (ne_some (by omega))
    have HG3 : Hid (w.grownBy w3 (some p)) := grown_trans (grown_alloc HG2.out _) hg3
    have HC3 : Hid (Cur w3 p a len cap) := hc3
    clear hg3 hc3 r2
    have x3 := d3.set 2 (.int .i64 (y3 : Int))
    have r3' := r3.other (show w.heap.size ≠ w2.heap.size by omega) 2 (.int .i64 (y3 : Int))
    have HG3' : Hid (w.grownBy (w3.setCell ⟨w2.heap.size, 2, none⟩ (.int .i64 (y3 : Int))) (some p)) := grown_store HG3.out (show w.heap.size ≤ w2.heap.size by omega) 2 (.int .i64 (y3 : Int))
    have HC3' : Hid (Cur (w3.setCell ⟨w2.heap.size, 2, none⟩ (.int .i64 (y3 : Int))) p a len cap) := HC3.out.store HC.out (show w.heap.size ≤ w2.heap.size by omega) 2 (.int .i64 (y3 : Int))
    have f0 := d3.free
    have g2 := d3.cell 2 _ rfl
    go_wp2_with fail
    refine (below_any 4 p a len cap _ HC3'.out (by omega)).mono ?_
    rintro e w4 ⟨y4, hy4, _, _, rfl, hc4, hg4⟩
    have b4' := hy4 (by omega)
    have b4 : (y4 : Int) ≤ 3 := by omega
    have d4 : Blk w4 w2.heap.size (ints4 5 z y3 0) 34 := Blk.grown (l := ints4 5 z y3 0) x3 hg4 (ne_some (by omega))
    have r4 := r3'.grown hg4 (ne_some (by omega))
    have HG4 : Hid (w.grownBy w4 (some p)) := grown_trans HG3'.out hg4
    have HC4 : Hid (Cur w4 p a len cap) := hc4
    clear hg4 hc4 r3 d3 r3' x3 f0 g2 HG3 HC3 HG3' HC3' 
    obtain ⟨q0, q1, q2, q3⟩ := (⟨d4.cell 0 _ rfl, d4.cell 1 _ rfl, d4.cell 2 _ rfl, d4.cell 3 _ rfl⟩ : _ ∧ _ ∧ _ ∧ _)
    obtain ⟨s0, s1, s2, s3⟩ := (⟨r4.cell 0 _ rfl, r4.cell 1 _ rfl, r4.cell 2 _ rfl, r4.cell 3 _ rfl⟩ : _ ∧ _ ∧ _ ∧ _)
    have f1 := d4.free
    have f2 := r4.free
    have t1 := d4.lt
    have t2 := r4.lt
    have hne : w.heap.size ≠ w2.heap.size := by omega
    have hne2 : w2.heap.size ≠ w.heap.size := by omega
    clear d4 r4
    go_wp2
    refine bodyPost_ret (v := .agg #[.int .i64 5, .int .i64 (z : Int), .int .i64 (y3 : Int), .int .i64 (y4 : Int)]) (by simp [results, Try.results54, go_sem, *]) rfl ⟨5, z, y3, y4, okW_mk (by unfold insP; omega), rfl, (HC4.out.store HC.out (show w.heap.size ≤ w2.heap.size by omega) 3 (.int .i64 (y4 : Int))).store4 HC.out (Nat.le_refl _) 5 z y3 y4, grown_store4 (grown_store HG4.out (show w.heap.size ≤ w2.heap.size by omega) 3 (.int .i64 (y4 : Int))) (Nat.le_refl _) 5 z y3 y4⟩
  · have hop : (1 : Int) + ((5 : Nat) : Int) = 6 := rfl
    go_wp2_with fail
    refine (below_any 4 p a len cap _ (HC2.out.alloc _) (by omega)).mono ?_
    rintro e w3 ⟨y3, hy3, _, _, rfl, hc3, hg3⟩
    have b3' := hy3 (by omega)
    have b3 : (y3 : Int) ≤ 3 := by omega
    have d3 := (Blk.new w2 (ints4 6 z 0 0) 34).grown hg3 (ne_some (by omega))
    have r3 := (r2.alloc (.cells #[.int .i64 6, .int .i64 z, .int .i64 0, .int .i64 0] 34)).grown hg3 (ne_some (by omega))
    have HG3 : Hid (w.grownBy w3 (some p)) := grown_trans (grown_alloc HG2.out _) hg3
    have HC3 : Hid (Cur w3 p a len cap) := hc3
    clear hg3 hc3 r2
    have x3 := d3.set 2 (.int .i64 (y3 : Int))
    have r3' := r3.other (show w.heap.size ≠ w2.heap.size by omega) 2 (.int .i64 (y3 : Int))
    have HG3' : Hid (w.grownBy (w3.setCell ⟨w2.heap.size, 2, none⟩ (.int .i64 (y3 : Int))) (some p)) := grown_store HG3.out (show w.heap.size ≤ w2.heap.size by omega) 2 (.int .i64 (y3 : Int))
    have HC3' : Hid (Cur (w3.setCell ⟨w2.heap.size, 2, none⟩ (.int .i64 (y3 : Int))) p a len cap) := HC3.out.store HC.out (show w.heap.size ≤ w2.heap.size by omega) 2 (.int .i64 (y3 : Int))
    have f0 := d3.free
    have g2 := d3.cell 2 _ rfl
    go_wp2_with fail
    refine (below_any 4 p a len cap _ HC3'.out (by omega)).mono ?_
    rintro e w4 ⟨y4, hy4, _, _, rfl, hc4, hg4⟩
    have b4' := hy4 (by omega)
    have b4 : (y4 : Int) ≤ 3 := by omega
    have d4 : Blk w4 w2.heap.size (ints4 6 z y3 0) 34 := Blk.grown (l := ints4 6 z y3 0) x3 hg4 (ne_some (by omega))
    have r4 := r3'.grown hg4 (ne_some (by omega))
    have HG4 : Hid (w.grownBy w4 (some p)) := grown_trans HG3'.out hg4
    have HC4 : Hid (Cur w4 p a len cap) := hc4
    clear hg4 hc4 r3 d3 r3' x3 f0 g2 HG3 HC3 HG3' HC3' 
    obtain ⟨q0, q1, q2, q3⟩ := (⟨d4.cell 0 _ rfl, d4.cell 1 _ rfl, d4.cell 2 _ rfl, d4.cell 3 _ rfl⟩ : _ ∧ _ ∧ _ ∧ _)
    obtain ⟨s0, s1, s2, s3⟩ := (⟨r4.cell 0 _ rfl, r4.cell 1 _ rfl, r4.cell 2 _ rfl, r4.cell 3 _ rfl⟩ : _ ∧ _ ∧ _ ∧ _)
    have f1 := d4.free
    have f2 := r4.free
    have t1 := d4.lt
    have t2 := r4.lt
    have hne : w.heap.size ≠ w2.heap.size := by omega
    have hne2 : w2.heap.size ≠ w.heap.size := by omega
    clear d4 r4
    go_wp2
    refine bodyPost_ret (v := .agg #[.int .i64 6, .int .i64 (z : Int), .int .i64 (y3 : Int), .int .i64 (y4 : Int)]) (by simp [results, Try.results54, go_sem, *]) rfl ⟨6, z, y3, y4, okW_mk (by unfold insP; omega), rfl, (HC4.out.store HC.out (show w.heap.size ≤ w2.heap.size by omega) 3 (.int .i64 (y4 : Int))).store4 HC.out (Nat.le_refl _) 6 z y3 y4, grown_store4 (grown_store HG4.out (show w.heap.size ≤ w2.heap.size by omega) 3 (.int .i64 (y4 : Int))) (Nat.le_refl _) 6 z y3 y4⟩
  · have hop : (1 : Int) + ((6 : Nat) : Int) = 7 := rfl
    go_wp2_with fail
    refine (below_any 4 p a len cap _ (HC2.out.alloc _) (by omega)).mono ?_
    rintro e w3 ⟨y3, hy3, _, _, rfl, hc3, hg3⟩
    have b3' := hy3 (by omega)
    have b3 : (y3 : Int) ≤ 3 := by omega
    have d3 := (Blk.new w2 (ints4 7 z 0 0) 34).grown hg3 (ne_some (by omega))
    have r3 := (r2.alloc (.cells #[.int .i64 7, .int .i64 z, .int .i64 0, .int .i64 0] 34)).grown hg3 (ne_some (by omega))
    have HG3 : Hid (w.grownBy w3 (some p)) := grown_trans (grown_alloc HG2.out _) hg3
    have HC3 : Hid (Cur w3 p a len cap) := hc3
    clear hg3 hc3 r2
    obtain ⟨q0, q1, q2, q3⟩ := (⟨d3.cell 0 _ rfl, d3.cell 1 _ rfl, d3.cell 2 _ rfl, d3.cell 3 _ rfl⟩ : _ ∧ _ ∧ _ ∧ _)
    obtain ⟨s0, s1, s2, s3⟩ := (⟨r3.cell 0 _ rfl, r3.cell 1 _ rfl, r3.cell 2 _ rfl, r3.cell 3 _ rfl⟩ : _ ∧ _ ∧ _ ∧ _)
    have f1 := d3.free
    have f2 := r3.free
    have t1 := d3.lt
    have t2 := r3.lt
    have hne : w.heap.size ≠ w2.heap.size := by omega
    have hne2 : w2.heap.size ≠ w.heap.size := by omega
    clear d3 r3
    go_wp2
    refine bodyPost_ret (v := .agg #[.int .i64 7, .int .i64 (y3 : Int), .int .i64 0, .int .i64 0]) (by simp [results, Try.results54, go_sem, *]) rfl ⟨7, y3, 0, 0, okW_mk (by unfold insP; omega), rfl, (HC3.out.store HC.out (show w.heap.size ≤ w2.heap.size by omega) 1 (.int .i64 (y3 : Int))).store4 HC.out (Nat.le_refl _) 7 y3 0 0, grown_store4 (grown_store HG3.out (show w.heap.size ≤ w2.heap.size by omega) 1 (.int .i64 (y3 : Int))) (Nat.le_refl _) 7 y3 0 0⟩
  · have hop : (1 : Int) + ((7 : Nat) : Int) = 8 := rfl
    go_wp2_with fail
    refine (below_any 6 p a len cap _ (HC2.out.alloc _) (by omega)).mono ?_
    rintro e w3 ⟨y3, hy3, _, _, rfl, hc3, hg3⟩
    have b3' := hy3 (by omega)
    have b3 : (y3 : Int) ≤ 5 := by omega
    have d3 := (Blk.new w2 (ints4 8 z 0 0) 34).grown hg3 (ne_some (by omega))
    have r3 := (r2.alloc (.cells #[.int .i64 8, .int .i64 z, .int .i64 0, .int .i64 0] 34)).grown hg3 (ne_some (by omega))
    have HG3 : Hid (w.grownBy w3 (some p)) := grown_trans (grown_alloc HG2.out _) hg3
    have HC3 : Hid (Cur w3 p a len cap) := hc3
    clear hg3 hc3 r2
    go_wp2_with fail
    refine (below_any 5 p a len cap _ HC3.out (by omega)).mono ?_
    rintro e w4 ⟨y4, hy4, _, _, rfl, hc4, hg4⟩
    have b4' := hy4 (by omega)
    have b4 : (y4 : Int) ≤ 4 := by omega
    have d4 := d3.grown hg4 (ne_some (by omega))
    have r4 := r3.grown hg4 (ne_some (by omega))
    have HG4 : Hid (w.grownBy w4 (some p)) := grown_trans HG3.out hg4
    have HC4 : Hid (Cur w4 p a len cap) := hc4
    clear hg4 hc4 r3 d3
    obtain ⟨K, hK⟩ : ∃ K, K = 65536 * y3 + y4 := ⟨_, rfl⟩
    have HR : Hid (∀ w, Calls Try.prog 56 #[.int .i64 (y3 : Int), .int .i64 (y4 : Int)] w fun e w' => e = .returned (.int .i64 (K : Int)) ∧ w = w') := fun w => by rw [hK]; exact sRes_any y3 y4 w (by omega) (by omega)
    have hKb : (K : Int) ≤ 4294967295 := by omega
    clear hK
    go_wp2_with fail
    refine (HR.out _).mono ?_
    rintro e w' ⟨rfl, rfl⟩
    obtain ⟨q0, q1, q2, q3⟩ := (⟨d4.cell 0 _ rfl, d4.cell 1 _ rfl, d4.cell 2 _ rfl, d4.cell 3 _ rfl⟩ : _ ∧ _ ∧ _ ∧ _)
    obtain ⟨s0, s1, s2, s3⟩ := (⟨r4.cell 0 _ rfl, r4.cell 1 _ rfl, r4.cell 2 _ rfl, r4.cell 3 _ rfl⟩ : _ ∧ _ ∧ _ ∧ _)
    have f1 := d4.free
    have f2 := r4.free
    have t1 := d4.lt
    have t2 := r4.lt
    have hne : w.heap.size ≠ w2.heap.size := by omega
    have hne2 : w2.heap.size ≠ w.heap.size := by omega
    clear d4 r4
    go_wp2
    refine bodyPost_ret (v := .agg #[.int .i64 8, .int .i64 (K : Int), .int .i64 0, .int .i64 0]) (by simp [results, Try.results54, go_sem, *]) rfl ⟨8, K, 0, 0, okW_mk (by unfold insP; omega), rfl, (HC4.out.store HC.out (show w.heap.size ≤ w2.heap.size by omega) 1 (.int .i64 (K : Int))).store4 HC.out (Nat.le_refl _) 8 K 0 0, grown_store4 (grown_store HG4.out (show w.heap.size ≤ w2.heap.size by omega) 1 (.int .i64 (K : Int))) (Nat.le_refl _) 8 K 0 0⟩

end Go.Proofs.Ytaigoggoibdgbaa
