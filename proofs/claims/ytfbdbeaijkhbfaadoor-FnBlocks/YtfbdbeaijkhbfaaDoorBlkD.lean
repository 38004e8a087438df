/- Slices that are drawn for one block of the digest: what impl.ShaBlock, spec.ShaBlock and the laws' sameInts answer of them, and what is drawn. -/
import Derived.Test.YtfbdbeaijkhbfaaDoorShaBlkI
import Derived.Test.YtfbdbeaijkhbfaaDoorShaBlkS
import Derived.Test.YtfbdbeaijkhbfaaDoorTurnD
namespace Go.Proofs.YtfbdbeaijkhbfaaDoor
open Go.RowKit
set_option linter.unusedVariables false

set_option maxHeartbeats 800000 in
theorem sameInts_same (g1 g2 : Nat) (v1 v2 : Value) (zs : List Int) (w : World) (hl : zs.length ≤ 1048576) (h1 : OwnI w g1 v1 zs) (h2 : OwnI w g2 v2 zs) :
    Calls Tryd.prog 14 #[v1, v2] w fun e w' => e = .returned (.bool true) ∧ ∃ n, w' = w.drewN n := by
  obtain ⟨c1, rfl⟩ := h1.1
  obtain ⟨c2, rfl⟩ := h2.1
  have H1 : Hid (∀ j, j < zs.length → w.cell? ⟨g1, j, none⟩ = some (.int .i64 (zs.getD j 0)) ∧ w.frozen? ⟨g1, j, none⟩ = false) := h1.2.2
  have H2 : Hid (∀ j, j < zs.length → w.cell? ⟨g2, j, none⟩ = some (.int .i64 (zs.getD j 0)) ∧ w.frozen? ⟨g2, j, none⟩ = false) := h2.2.2
  clear h1 h2
  obtain ⟨n, hn⟩ : ∃ n, n = zs.length := ⟨_, rfl⟩
  rw [← hn] at hl H1 H2 ⊢
  go_enter Tryd.func14, Tryd.ntmps14
  go_wp2
  go_loopw [5] (fun i wr => ∃ (k m : Nat), i = .int .i64 k ∧ k ≤ n ∧ wr = w.drewN m) (fun i _ => n - (intOf i).toNat)
  case atStart => exact ⟨0, 0, rfl, by omega, rfl⟩
  case round =>
    obtain ⟨k, m, rfl, hk, rfl⟩ := hrel
    by_cases hlt : k < n
    · have bk : (k : Int) < (n : Int) := by omega
      obtain ⟨z, hz⟩ : ∃ z, z = zs.getD k 0 := ⟨_, rfl⟩
      have d1 : (w.drewN m).cell? ⟨g1, k, none⟩ = some (.int .i64 z) := by rw [hz]; exact (H1.out k hlt).1
      have d2 : (w.drewN m).cell? ⟨g2, k, none⟩ = some (.int .i64 z) := by rw [hz]; exact (H2.out k hlt).1
      clear hz
      obtain ⟨w1, hw1⟩ : ∃ w1, w1 = w.drewN m := ⟨_, rfl⟩
      rw [← hw1] at d1 d2 ⊢
      have HW : Hid (w1 = w.drewN m) := hw1
      clear hw1
      go_wp2_with fail
      go_quiet (fail)
      obtain ⟨w2, hw2⟩ : ∃ w2, w2 = w1.drewN nq := ⟨_, rfl⟩
      rw [← hw2]
      have HW2 : Hid (∃ m, w2 = w.drewN m) := by rw [hw2, HW.out]; exact ⟨m + nq, by simp [World.drewN, Nat.add_assoc]⟩
      clear hw2 d1 d2 HW
      go_wp2
      go_roundw
      case rel => obtain ⟨m2, hm2⟩ := HW2.out; exact ⟨k + 1, m2, by go_num, by omega, hm2⟩
      case measure => simp [intOf]; omega
    · have bk : ¬ ((k : Int) < (n : Int)) := by omega
      go_wp2
      go_ret
      exact ⟨rfl, m, rfl⟩

/-- v is a slice of seven numbers behind the first of block g. -/
def Seven (w : World) (g : Nat) (v : Value) (zs : List Int) : Prop :=
  (∃ cap, v = .slice (some ⟨g, 1, none⟩) 7 cap) ∧ g < w.heap.size ∧ zs.length = 7 ∧ ∀ j, j < 7 → w.cell? ⟨g, 1 + j, none⟩ = some (.int .i64 (zs.getD j 0))

theorem Seven.block {w w' : World} {g : Nat} {v : Value} {zs : List Int} (h : Seven w g v zs) (hb : w'.heap[g]? = w.heap[g]?) (hs : w.heap.size ≤ w'.heap.size) : Seven w' g v zs :=
  ⟨h.1, by have := h.2.1; omega, h.2.2.1, fun j hj => (World.cell?_of_block (w := w) (a := ⟨g, 1 + j, none⟩) hb).trans (h.2.2.2 j hj)⟩

theorem Seven.below {w w' : World} {g B : Nat} {v : Value} {zs : List Int} (h : Seven w g v zs) (hb : Below B w w') (hB : g < B) : Seven w' g v zs :=
  h.block (hb.block g hB) hb.size

theorem src7 {w : World} {g : Nat} {v : Value} {zs : List Int} (h : Seven w g v zs) (o : Obj) : ∀ j u, (zV zs)[j]? = some u → (w.alloc o).cell? ((⟨g, 1, none⟩ : Addr).add j) = some u := by
  intro j u hu
  have hj : j < 7 := by
    have := (List.getElem?_eq_some_iff.1 hu).1
    have h7 := h.2.2.1
    simp [zV] at this
    omega
  have h2 := h.block (w' := w.alloc o) (Below.heap_alloc w o g h.2.1) (by simp only [sz_alloc]; omega)
  rw [Addr.add_lit, h2.2.2.2 j hj, ← hu]
  have h7 := h.2.2.1
  have hj' : j < zs.length := by omega
  simp [zV, hj']

set_option maxRecDepth 100000 in
set_option maxHeartbeats 1000000 in
theorem stateOf_seven (g c : Nat) (w : World) :
    Calls Tryd.prog 23 #[.slice (some ⟨g, 1, none⟩) 7 c] w fun e w' => e = .returned (.tuple #[.agg (kV .u32 (List.replicate 8 0)).toArray, .bool false]) ∧ Below w.heap.size w w' := by
  go_enter Tryd.func23, Tryd.ntmps23
  go_wp2
  rw [zeros8, zeros53]
  have r0 := (Row.new w 47 .u32 (List.replicate 8 0)).alloc (.cells (zV (List.replicate 8 0)).toArray 43)
  exact bodyPost_ret (results_row_tmp Tryd.results23 _ _ w.heap.size (kV .u32 (List.replicate 8 0)).toArray rfl (r0.load _ Tryd.underlying47 rfl infoSt)) rfl ⟨rfl, ((Below.refl _ w).alloc (Nat.le_refl _) _).alloc (by simp only [sz_alloc]; omega) _⟩

set_option maxHeartbeats 800000 in
theorem slClone_seven (g : Nat) (v : Value) (zs : List Int) (w : World) (h : Seven w g v zs) :
    Calls Tryd.prog 24 #[v] w fun e w' => ∃ g' v', e = .returned v' ∧ w.heap.size ≤ g' ∧ OwnI w' g' v' zs ∧ Below w.heap.size w w' := by
  obtain ⟨i0, hi, hz0, hz1, hz2⟩ := info_parts Tryd.infoI
  obtain ⟨c, rfl⟩ := h.1
  have HS : Hid (∀ o : Obj, ∀ j u, (zV zs)[j]? = some u → (w.alloc o).cell? ((⟨g, 1, none⟩ : Addr).add j) = some u) := fun o => src7 h o
  have HL : Hid ((zV zs).length = 7 * 1 ∧ zs.length = 7) := ⟨by rw [zV_length, h.2.2.1], h.2.2.1⟩
  have hnq : (binOp .eql 26 (.slice (some ⟨g, 1, none⟩) 7 c) (.slice none 0 0)).run Tryd.prog w = .ok (.bool false) w := Lib.run_eql_slice_nil w _ _ _ _ _ _ _ Tryd.underlying26
  clear h
  go_enter Tryd.func24, Tryd.ntmps24
  go_wp2_with (at_builtin; refine wpList_append_own _ rfl (.tmp 5) (.tmp 6) 26 rfl w.heap.size 3 i0 (.int .i64 0) 1 8 Tryd.underlying26 hi hz0 hz1 hz2 rfl (by decide) _ _ _ rfl (own_empty w) ⟨g, 1, none⟩ 7 c (zV zs) rfl HL.out.1 (HS.out _) (zV_one zs) ?c3 ?c4 ?c5 ?_)
  case c3 => unfold maxLen; omega
  case c4 => omega
  case c5 => simp only [sz_alloc]; omega
  intro v' w1 hown hgrow hnil
  have b1 : Below w.heap.size w w1 := ((Below.refl _ w).alloc (Nat.le_refl _) _).grown hgrow (by simp only [sz_alloc]; omega) (fun k hk => by simp [Value.ownBlock] at hk; omega)
  have hn : ¬ v' = .slice none 0 0 := by intro e; have := hnil; simp_all
  have hF : Hid (∃ g', w.heap.size ≤ g' ∧ OwnI w1 g' v' zs) := by
    have : w1.ownsRow w.heap.size 3 1 v' (0 + 7) (zs.map (Value.int .i64)) := by simpa [zV] using hown
    exact OwnI.ofOwns this hn
  clear hown hgrow hnil hn
  go_wp2
  go_ret
  obtain ⟨g', h1, h2⟩ := hF.out
  exact ⟨g', _, rfl, h1, h2, b1⟩

theorem shaZ_seven (zs : List Int) (L : List UInt8) (h : zs.length = 7) : shaZ zs L = zs := shaZ_no zs L (fun k => by have := k.1.1; omega)

set_option maxRecDepth 100000 in
set_option maxHeartbeats 1000000 in
theorem iBlk_seven (g : Nat) (v : Value) (zs : List Int) (s : ByteArray) (w : World) (h : Seven w g v zs) :
    Calls Tryd.prog 9 #[v, .string s] w fun e w' => ∃ g' v', e = .returned v' ∧ w.heap.size ≤ g' ∧ OwnI w' g' v' (shaZ zs s.data.toList) ∧ Below w.heap.size w w' := by
  have hv := h.1
  obtain ⟨c, hv⟩ := hv
  have HH : Hid (Seven w g v zs ∧ shaZ zs s.data.toList = zs) := ⟨h, shaZ_seven _ _ h.2.2.1⟩
  clear h
  subst hv
  go_enter Tryd.func9, Tryd.ntmps9
  go_wp2_with fail
  refine (stateOf_seven g c _).mono ?_
  rintro e w1 ⟨rfl, b1⟩
  obtain ⟨l, hll⟩ : ∃ l : List Nat, l = List.replicate 8 0 := ⟨_, rfl⟩
  rw [← hll]
  have HI : Hid ((Tryd.prog.info? 47).map (·.size) = some (kV .u32 l).toArray.size ∧ 8 = (kV .u32 l).toArray.size) := by
    have e : (kV .u32 l).toArray.size = 8 := by simp [kV, hll]
    exact ⟨by rw [e]; exact infoSt, e.symm⟩
  clear hll
  have c1 : Seven w1 g (.slice (some ⟨g, 1, none⟩) 7 c) zs := HH.out.1.below b1 HH.out.1.2.1
  have c2 : Seven ((w1.alloc (.cells (kV .u32 (List.replicate 8 0)).toArray 47)).setRow w1.heap.size (kV .u32 l).toArray) g (.slice (some ⟨g, 1, none⟩) 7 c) zs :=
    c1.block ((setRow_other _ _ _ _ (by have := c1.2.1; omega)).trans (Below.heap_alloc w1 _ g c1.2.1)) (by rw [size_setRow, sz_alloc]; omega)
  have d2 : Below w.heap.size w ((w1.alloc (.cells (kV .u32 (List.replicate 8 0)).toArray 47)).setRow w1.heap.size (kV .u32 l).toArray) := below_setRow (b1.alloc b1.size _) b1.size _
  have HC : Hid (Seven ((w1.alloc (.cells (kV .u32 (List.replicate 8 0)).toArray 47)).setRow w1.heap.size (kV .u32 l).toArray) g (.slice (some ⟨g, 1, none⟩) 7 c) zs ∧ Below w.heap.size w ((w1.alloc (.cells (kV .u32 (List.replicate 8 0)).toArray 47)).setRow w1.heap.size (kV .u32 l).toArray)) := ⟨c2, d2⟩
  clear c1 c2 d2 b1
  go_wp2_with (refine wpList_store_row rfl 47 (.tmp 5) (.tmp 11) rfl w1.heap.size (kV .u32 l).toArray rfl rfl 47 _ (heap_alloc_last w1 _) HI.out.1 HI.out.2 (kV_one _ _) ?_)
  rw [zeros8]
  refine (slClone_seven g _ zs _ HC.out.1).mono ?_
  rintro e w4 ⟨g', v', rfl, hg', o4, b4⟩
  have b5 := HC.out.2.trans (b4.mono HC.out.2.size)
  have hg5 : w.heap.size ≤ g' := by have := HC.out.2.size; omega
  clear b4 hg'
  go_wp2
  go_ret
  exact ⟨g', _, rfl, hg5, by rw [HH.out.2]; exact o4, b5⟩

set_option maxRecDepth 100000 in
set_option maxHeartbeats 1000000 in
theorem sBlk_seven (g : Nat) (v : Value) (zs : List Int) (s : ByteArray) (w : World) (h : Seven w g v zs) :
    Calls Tryd.prog 15 #[v, .string s] w fun e w' => ∃ g' v', e = .returned v' ∧ w.heap.size ≤ g' ∧ OwnI w' g' v' (shaZ zs s.data.toList) ∧ Below w.heap.size w w' := by
  obtain ⟨i0, hi, hz0, hz1, hz2⟩ := info_parts Tryd.infoI
  obtain ⟨c, rfl⟩ := h.1
  have HS : Hid (∀ o : Obj, ∀ j u, (zV zs)[j]? = some u → (w.alloc o).cell? ((⟨g, 1, none⟩ : Addr).add j) = some u) := fun o => src7 h o
  have HL : Hid ((zV zs).length = 7 * 1 ∧ zs.length = 7) := ⟨by rw [zV_length, h.2.2.1], h.2.2.1⟩
  have HZ : Hid (shaZ zs s.data.toList = zs) := shaZ_seven _ _ h.2.2.1
  clear h
  go_enter Tryd.func15, Tryd.ntmps15
  go_wp2_with (at_builtin; refine wpList_append_own _ rfl (.tmp 9) (.tmp 10) 26 rfl w.heap.size 3 i0 (.int .i64 0) 1 8 Tryd.underlying26 hi hz0 hz1 hz2 rfl (by decide) (.slice (some ⟨w.heap.size, 0, none⟩) 0 0) 0 [] rfl (own_empty w) ⟨g, 1, none⟩ 7 c (zV zs) rfl HL.out.1 (HS.out _) (zV_one zs) (by unfold maxLen; omega) (by omega) (by simp only [sz_alloc]; omega) ?_; intro v1 w1 hown hgrow hnil)
  all_goals
    have hn1 : ¬ v1 = .slice none 0 0 := by intro e; have := hnil; simp_all
    have b1 : Below w.heap.size w w1 := ((Below.refl _ w).alloc (Nat.le_refl _) _).grown hgrow (by simp only [sz_alloc]; omega) (fun k hk => by simp [Value.ownBlock] at hk; omega)
    have hO : ∃ g', w.heap.size ≤ g' ∧ OwnI w1 g' v1 zs := by
      have hx : w1.ownsRow w.heap.size 3 1 v1 (0 + 7) (zs.map (Value.int .i64)) := by simpa [zV] using hown
      exact OwnI.ofOwns hx hn1
    go_ret
    obtain ⟨g', h1, h2⟩ := hO
    exact ⟨g', _, rfl, h1, by rw [HZ.out]; exact h2, b1⟩

end Go.Proofs.YtfbdbeaijkhbfaaDoor
