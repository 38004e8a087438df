/- What spec.l03Block answers: the state behind a block. -/
import Derived.Test.YtfbdbeaijkhbfaaDoorBlkFacts
import Derived.Great.BuildSlice
namespace Go.Proofs.YtfbdbeaijkhbfaaDoor
open Go.RowKit
set_option linter.unusedVariables false

/-- The world in which l03Block works: its words' block, the keys', its answer's, the schedule's. -/
structure BlkW (w wr : World) (l0 K l : List Nat) : Prop where
  row : Row wr w.heap.size 45 .u32 l0
  keys : Row wr (w.heap.size + 1) 58 .u32 K
  out : Row wr (w.heap.size + 1 + 1) 45 .u32 (List.replicate 8 0)
  sch : Row wr (w.heap.size + 1 + 1 + 1) 58 .u32 l
  below : Below w.heap.size w wr
  size : wr.heap.size = w.heap.size + 4

/-- The same behind the copy of the words, which lies in block S. -/
structure Blk2 (w wr : World) (S : Nat) (l0 K l sl : List Nat) : Prop where
  row : Row wr w.heap.size 45 .u32 l0
  keys : Row wr (w.heap.size + 1) 58 .u32 K
  out : Row wr (w.heap.size + 1 + 1) 45 .u32 (List.replicate 8 0)
  sch : Row wr (w.heap.size + 1 + 1 + 1) 58 .u32 l
  sst : Row wr S 45 .u32 sl
  below : Below w.heap.size w wr
  at4 : S = w.heap.size + 4

theorem Blk2.drew {w wr : World} {S : Nat} {l0 K l sl : List Nat} (h : Blk2 w wr S l0 K l sl) : Blk2 w wr.drew S l0 K l sl :=
  ⟨h.row.drew, h.keys.drew, h.out.drew, h.sch.drew, h.sst.drew, h.below.drew, h.at4⟩

theorem Blk2.drewN {w wr : World} {S : Nat} {l0 K l sl : List Nat} (h : Blk2 w wr S l0 K l sl) (n : Nat) : Blk2 w (wr.drewN n) S l0 K l sl :=
  ⟨h.row, h.keys, h.out, h.sch, h.sst, below_drewN h.below _, h.at4⟩

theorem Blk2.set {w wr : World} {S : Nat} {l0 K l sl : List Nat} (h : Blk2 w wr S l0 K l sl) (j x : Nat) (z : Int) (hz : z = (x : Int)) : Blk2 w (wr.setCell ⟨S, j, none⟩ (.int .u32 z)) S l0 K l (sl.set j x) :=
  have h4 := h.at4
  ⟨h.row.other (by omega), h.keys.other (by omega), h.out.other (by omega), h.sch.other (by omega), h.sst.set j x z hz, h.below.setCell (by show w.heap.size ≤ S; omega) _, h4⟩

theorem Blk2.set0 {w wr : World} {S : Nat} {l0 K l sl : List Nat} (h : Blk2 w wr S l0 K l sl) (j x : Nat) (z : Int) (hz : z = (x : Int)) : Blk2 w (wr.setCell ⟨w.heap.size, j, none⟩ (.int .u32 z)) S (l0.set j x) K l sl :=
  have h4 := h.at4
  ⟨h.row.set j x z hz, h.keys.other (by omega), h.out.other (by omega), h.sch.other (by omega), h.sst.other (by omega), h.below.setCell (Nat.le_refl _) _, h4⟩

theorem BlkW.drew {w wr : World} {l0 K l : List Nat} (h : BlkW w wr l0 K l) : BlkW w wr.drew l0 K l :=
  ⟨h.row.drew, h.keys.drew, h.out.drew, h.sch.drew, h.below.drew, h.size⟩

theorem BlkW.drewN {w wr : World} {l0 K l : List Nat} (h : BlkW w wr l0 K l) (n : Nat) : BlkW w (wr.drewN n) l0 K l :=
  ⟨h.row, h.keys, h.out, h.sch, below_drewN h.below _, h.size⟩

theorem BlkW.set {w wr : World} {l0 K l : List Nat} (h : BlkW w wr l0 K l) (j x : Nat) (z : Int) (hz : z = (x : Int)) : BlkW w (wr.setCell ⟨w.heap.size + 1 + 1 + 1, j, none⟩ (.int .u32 z)) l0 K (l.set j x) :=
  ⟨h.row.other (by omega), h.keys.other (by omega), h.out.other (by omega), h.sch.set j x z hz, h.below.setCell (by show w.heap.size ≤ w.heap.size + 1 + 1 + 1; omega) _, by rw [World.size_setCell]; exact h.size⟩

set_option maxRecDepth 100000 in
set_option maxHeartbeats 2000000 in
theorem block_any (st : St) (s : ByteArray) (w : World) (hs : s.size = 64) (hst : st.ok) :
    Calls Tryd.prog 34 #[.agg (kV .u32 st.list).toArray, .string s, .agg (kV .u32 keysN).toArray] w fun e w' => e = .returned (.agg (kV .u32 (blockSt st s.data.toList).list).toArray) ∧ Below w.heap.size w w' := by
  obtain ⟨l0, hl0⟩ : ∃ l, l = st.list := ⟨_, rfl⟩
  have hlen : l0.length = 8 := by rw [hl0]; rfl
  rw [← hl0]
  obtain ⟨K, hK⟩ : ∃ K, K = keysN := ⟨_, rfl⟩
  rw [← hK]
  have HL0 : Hid (l0 = st.list ∧ l0.length = 8 ∧ K = keysN ∧ st.ok) := ⟨hl0, hlen, hK, hst⟩
  clear hl0 hlen hK hst
  obtain ⟨Z, hZ, HI, hZs, hbu'⟩ := zeroRow
  have HZ : Hid (Z = (kV .u32 (List.replicate 64 0)).toArray ∧ Z.all (·.oneCell') = true) := ⟨hZ.out, by rw [hZ.out]; exact kV_one _ _⟩
  clear hZ
  have HS : Hid (s.size = 64) := hs
  clear hs
  go_enter Tryd.func34, Tryd.ntmps34
  go_wp2_with (first
    | (refine wpList_buildTo rfl 58 #[] rfl (some 21) rfl Z (hbu'.out _) ?_)
    | (refine wpList_store_row rfl 58 (.tmp 7) (.tmp 21) rfl (w.heap.size + 1 + 1 + 1) Z rfl rfl 58 _ (alloc4_last _ _ _ _ _) HI.out hZs.out HZ.out.2 ?_))
  rw [zeros64, zeros8]
  obtain ⟨w0, hw0⟩ : ∃ w0, w0 = ((((w.alloc (.cells (kV .u32 l0).toArray 45)).alloc (.cells (kV .u32 K).toArray 58)).alloc (.cells (kV .u32 (List.replicate 8 0)).toArray 45)).alloc (.cells (kV .u32 (List.replicate 64 0)).toArray 58)).setRow (w.heap.size + 1 + 1 + 1) Z := ⟨_, rfl⟩
  rw [← hw0]
  have hW0 : BlkW w w0 l0 K (padZ 64 (firstW s.data.toList 0)) := by
    rw [hw0, HZ.out.1]
    have e : padZ 64 (firstW s.data.toList 0) = List.replicate 64 0 := rfl
    rw [e]
    refine ⟨((((Row.new w 45 .u32 l0).alloc _).alloc _).alloc _).rowOther (by omega), ?_, ?_, ?_, ?_, ?_⟩
    · have h2 : Row _ (w.heap.size + 1) 58 .u32 K := alloc2_last w (.cells (kV .u32 l0).toArray 45) (.cells (kV .u32 K).toArray 58)
      exact ((h2.alloc _).alloc _).rowOther (by omega)
    · have h2 : Row _ (w.heap.size + 1 + 1) 45 .u32 (List.replicate 8 0) := alloc3_last w (.cells (kV .u32 l0).toArray 45) (.cells (kV .u32 K).toArray 58) (.cells (kV .u32 (List.replicate 8 0)).toArray 45)
      exact (h2.alloc _).rowOther (by omega)
    · have h2 : Row _ (w.heap.size + 1 + 1 + 1) 58 .u32 (List.replicate 64 0) := alloc4_last w (.cells (kV .u32 l0).toArray 45) (.cells (kV .u32 K).toArray 58) (.cells (kV .u32 (List.replicate 8 0)).toArray 45) (.cells (kV .u32 (List.replicate 64 0)).toArray 58)
      exact Row.stored h2
    · exact below_setRow (((((Below.refl _ w).alloc (Nat.le_refl _) _).alloc (by simp only [sz_alloc]; omega) _).alloc (by simp only [sz_alloc]; omega) _).alloc (by simp only [sz_alloc]; omega) _) (by omega) _
    · simp only [size_setRow, sz_alloc]
  clear hw0
  go_loopw [8] (fun i wr => ∃ k : Nat, i = .int .i64 k ∧ k ≤ 16 ∧ BlkW w wr l0 K (padZ 64 (firstW s.data.toList k))) (fun i _ => 16 - (intOf i).toNat)
  case atStart => exact ⟨0, rfl, by omega, hW0⟩
  case round =>
    obtain ⟨k, rfl, hk, hW⟩ := hrel
    clear hW0
    by_cases hlt : k < 16
    · obtain ⟨j, hj⟩ : ∃ j, j = 4 * k := ⟨_, rfl⟩
      obtain ⟨j1, hj1⟩ : ∃ j1, j1 = j + 1 := ⟨_, rfl⟩
      obtain ⟨j2, hj2⟩ : ∃ j2, j2 = j + 2 := ⟨_, rfl⟩
      obtain ⟨j3, hj3⟩ : ∃ j3, j3 = j + 3 := ⟨_, rfl⟩
      have hs := HS.out
      have b0 : j < s.size := by omega
      have b1 : j1 < s.size := by omega
      have b2 : j2 < s.size := by omega
      have b3 : j3 < s.size := by omega
      obtain ⟨c0, hc0⟩ : ∃ c, s[j]'b0 = c := ⟨_, rfl⟩
      obtain ⟨c1, hc1⟩ : ∃ c, s[j1]'b1 = c := ⟨_, rfl⟩
      obtain ⟨c2, hc2⟩ : ∃ c, s[j2]'b2 = c := ⟨_, rfl⟩
      obtain ⟨c3, hc3⟩ : ∃ c, s[j3]'b3 = c := ⟨_, rfl⟩
      clear hs
      have e0 : 4 * (k : Int) = (j : Int) := by omega
      have e1 : (j : Int) + 1 = (j1 : Int) := by omega
      have e2 : (j : Int) + 2 = (j2 : Int) := by omega
      have e3 : (j : Int) + 3 = (j3 : Int) := by omega
      have i0 : (j : Int) < (s.size : Int) := by omega
      have i1 : (j1 : Int) < (s.size : Int) := by omega
      have i2 : (j2 : Int) < (s.size : Int) := by omega
      have i3 : (j3 : Int) < (s.size : Int) := by omega
      have hcell := hW.sch.cell k (by rw [padZ_length _ _ (by rw [firstW_length]; omega)]; omega)
      have hfz := hW.sch.frozen k
      have HW : Hid (BlkW w wr l0 K (padZ 64 (firstW s.data.toList k)) ∧ j = 4 * k ∧ j1 = j + 1 ∧ j2 = j + 2 ∧ j3 = j + 3) := ⟨hW, hj, hj1, hj2, hj3⟩
      clear hW hj hj1 hj2 hj3
      go_wp2_with fail
      go_region
      obtain ⟨w2, hw2⟩ : ∃ w2, w2 = (wr.setCell ⟨w.heap.size + 1 + 1 + 1, k, none⟩ (.int .u32 (bits .or .u32 (bits .or .u32 (bits .or .u32 ((c0.toNat : Int) % 4294967296 * 16777216 % 4294967296) ((c1.toNat : Int) % 4294967296 * 65536 % 4294967296)) ((c2.toNat : Int) % 4294967296 * 256 % 4294967296)) ((c3.toNat : Int) % 4294967296)))).drew := ⟨_, rfl⟩
      rw [← hw2]
      have HW2 : BlkW w w2 l0 K (padZ 64 (firstW s.data.toList (k + 1))) := by
        obtain ⟨hW, q0, q1, q2, q3⟩ := HW.out
        have hS := HS.out
        rw [hw2]
        have hl := firstW_length s.data.toList k
        have := (hW.set k (be (byteD s.data.toList (4 * k)) (byteD s.data.toList (4 * k + 1)) (byteD s.data.toList (4 * k + 2)) (byteD s.data.toList (4 * k + 3))) _ (be_bits c0.toNat c1.toNat c2.toNat c3.toNat c0.toNat_lt c1.toNat_lt c2.toNat_lt c3.toNat_lt |>.trans (by
          rw [byteD_at s _ (by omega), byteD_at s _ (by omega), byteD_at s _ (by omega), byteD_at s _ (by omega), ← hc0, ← hc1, ← hc2, ← hc3]
          subst q3 q2 q1 q0
          rfl))).drew
        have hset := padZ_set 64 (firstW s.data.toList k) (be (byteD s.data.toList (4 * k)) (byteD s.data.toList (4 * k + 1)) (byteD s.data.toList (4 * k + 2)) (byteD s.data.toList (4 * k + 3))) (by omega)
        rw [hl] at hset
        rw [hset] at this
        exact this
      clear hw2 hcell hfz hc0 hc1 hc2 hc3 e0 e1 e2 e3 i0 i1 i2 i3 HW
      go_wp2
      go_roundw
      case rel => exact ⟨k + 1, by go_num, by omega, HW2⟩
      case measure => simp [intOf]; omega
    · have hk16 : k = 16 := by omega
      have HS0 : BlkW w wr l0 K (padZ 64 (sched s.data.toList 0)) := by rw [hk16] at hW; exact hW
      have hlt' : ¬ ((k : Int) < 16) := by omega
      clear hW hk16 hlt
      go_wp2_with fail
      go_loopw [9] (fun i wx => ∃ n : Nat, i = .int .i64 ((16 + n : Nat) : Int) ∧ n ≤ 48 ∧ BlkW w wx l0 K (padZ 64 (sched s.data.toList n))) (fun i _ => 64 - (intOf i).toNat)
      case atStart => exact ⟨0, rfl, by omega, HS0⟩
      case round =>
        obtain ⟨n, rfl, hn, hW⟩ := hrel
        clear HS0
        obtain ⟨l, hl⟩ : ∃ l, l = sched s.data.toList n := ⟨_, rfl⟩
        have hll : l.length = 16 + n := by rw [hl]; exact sched_length _ _
        have hlt32 : ∀ x ∈ l, x < 4294967296 := by rw [hl]; exact sched_lt _ _
        rw [← hl] at hW
        obtain ⟨m, hm⟩ : ∃ m, m = 16 + n := ⟨_, rfl⟩
        rw [← hm]
        by_cases hlt : n < 48
        · obtain ⟨a16, h16⟩ : ∃ a, a = m - 16 := ⟨_, rfl⟩
          obtain ⟨a15, h15⟩ : ∃ a, a = m - 15 := ⟨_, rfl⟩
          obtain ⟨a7, h7⟩ : ∃ a, a = m - 7 := ⟨_, rfl⟩
          obtain ⟨a2, h2⟩ : ∃ a, a = m - 2 := ⟨_, rfl⟩
          obtain ⟨x16, y16⟩ : ∃ x, x = l.getD a16 0 := ⟨_, rfl⟩
          obtain ⟨x15, y15⟩ : ∃ x, x = l.getD a15 0 := ⟨_, rfl⟩
          obtain ⟨x7, y7⟩ : ∃ x, x = l.getD a7 0 := ⟨_, rfl⟩
          obtain ⟨x2, y2⟩ : ∃ x, x = l.getD a2 0 := ⟨_, rfl⟩
          have q16 : (m : Int) - 16 = (a16 : Int) := by omega
          have q15 : (m : Int) - 15 = (a15 : Int) := by omega
          have q7 : (m : Int) - 7 = (a7 : Int) := by omega
          have q2 : (m : Int) - 2 = (a2 : Int) := by omega
          have bk : (m : Int) < 64 := by omega
          have b16 : (a16 : Int) < 64 := by omega
          have b15 : (a15 : Int) < 64 := by omega
          have b7 : (a7 : Int) < 64 := by omega
          have b2 : (a2 : Int) < 64 := by omega
          have hpl := padZ_length 64 l (by omega)
          have c16 := hW.sch.cell a16 (by omega)
          have c15 := hW.sch.cell a15 (by omega)
          have c7 := hW.sch.cell a7 (by omega)
          have c2 := hW.sch.cell a2 (by omega)
          rw [padZ_getD 64 l _ (by omega), ← y16] at c16
          rw [padZ_getD 64 l _ (by omega), ← y15] at c15
          rw [padZ_getD 64 l _ (by omega), ← y7] at c7
          rw [padZ_getD 64 l _ (by omega), ← y2] at c2
          have ck := hW.sch.cell m (by omega)
          have fk := hW.sch.frozen m
          have l15 : x15 < 4294967296 := by rw [y15]; exact getD_lt32 hlt32 _
          have l2 : x2 < 4294967296 := by rw [y2]; exact getD_lt32 hlt32 _
          obtain ⟨r7, hr7⟩ : ∃ r, r = rot 7 x15 := ⟨_, rfl⟩
          obtain ⟨r18, hr18⟩ : ∃ r, r = rot 18 x15 := ⟨_, rfl⟩
          obtain ⟨r17, hr17⟩ : ∃ r, r = rot 17 x2 := ⟨_, rfl⟩
          obtain ⟨r19, hr19⟩ : ∃ r, r = rot 19 x2 := ⟨_, rfl⟩
          obtain ⟨s0, hs0⟩ : ∃ r, r = sml0 x15 := ⟨_, rfl⟩
          obtain ⟨s1, hs1⟩ : ∃ r, r = sml1 x2 := ⟨_, rfl⟩
          obtain ⟨p0, hp0⟩ : ∃ r, r = r7 ^^^ r18 := ⟨_, rfl⟩
          obtain ⟨p1, hp1⟩ : ∃ r, r = r17 ^^^ r19 := ⟨_, rfl⟩
          have m7 : r7 < 4294967296 := by rw [hr7]; exact rot_lt _ _ l15
          have m18 : r18 < 4294967296 := by rw [hr18]; exact rot_lt _ _ l15
          have m17 : r17 < 4294967296 := by rw [hr17]; exact rot_lt _ _ l2
          have m19 : r19 < 4294967296 := by rw [hr19]; exact rot_lt _ _ l2
          have x0 : bits .xor .u32 (r7 : Int) (r18 : Int) = (p0 : Int) := by rw [u32_xor_nat _ _ m7 m18, hp0]
          have x1 : bits .xor .u32 (r17 : Int) (r19 : Int) = (p1 : Int) := by rw [u32_xor_nat _ _ m17 m19, hp1]
          have x3 : bits .xor .u32 (p0 : Int) ((x15 : Int) / 8) = (s0 : Int) := by
            rw [show (x15 : Int) / 8 = ((x15 / 8 : Nat) : Int) by simp, u32_xor_nat _ _ (by rw [hp0]; exact xor_lt32 _ _ m7 m18) (by omega), hs0, hp0, hr7, hr18]; rfl
          have x4 : bits .xor .u32 (p1 : Int) ((x2 : Int) / 1024) = (s1 : Int) := by
            rw [show (x2 : Int) / 1024 = ((x2 / 1024 : Nat) : Int) by simp, u32_xor_nat _ _ (by rw [hp1]; exact xor_lt32 _ _ m17 m19) (by omega), hs1, hp1, hr17, hr19]; rfl
          have HR : Hid (r7 = rot 7 x15 ∧ r18 = rot 18 x15 ∧ r17 = rot 17 x2 ∧ r19 = rot 19 x2) := ⟨hr7, hr18, hr17, hr19⟩
          have HN : Hid (nextW l = (((x16 + s0) % 4294967296 + x7) % 4294967296 + s1) % 4294967296) := by
            unfold Hid nextW
            rw [hll, ← hm, ← h16, ← h15, ← h7, ← h2, ← y16, ← y15, ← y7, ← y2, ← hs0, ← hs1]
          have HL : Hid (l = sched s.data.toList n ∧ m = 16 + n ∧ l.length = m) := ⟨hl, hm, by omega⟩
          have HW : Hid (BlkW w wr l0 K (padZ 64 l)) := hW
          clear hW hl hm h16 h15 h7 h2 y16 y15 y7 y2 hr7 hr18 hr17 hr19 hs0 hs1 hp0 hp1 hpl hll hlt32
          go_wp2_with fail
          go_quiet (first | (go_at_call 41; exact Calls.quiet_of_same (turn_q 7 x15 r7 _ _ rfl (by decide) (by decide) l15 HR.out.1)) | (go_at_call 41; exact Calls.quiet_of_same (turn_q 18 x15 r18 _ _ rfl (by decide) (by decide) l15 HR.out.2.1)))
          obtain ⟨w1, hw1⟩ : ∃ w1, w1 = wr.drewN nq := ⟨_, rfl⟩
          rw [← hw1]
          have HW1 : Hid (BlkW w w1 l0 K (padZ 64 l)) := by rw [hw1]; exact HW.out.drewN nq
          have d2 : w1.cell? ⟨w.heap.size + 1 + 1 + 1, a2, none⟩ = some (.int .u32 (x2 : Int)) := by rw [hw1]; exact c2
          have d16 : w1.cell? ⟨w.heap.size + 1 + 1 + 1, a16, none⟩ = some (.int .u32 (x16 : Int)) := by rw [hw1]; exact c16
          have d7 : w1.cell? ⟨w.heap.size + 1 + 1 + 1, a7, none⟩ = some (.int .u32 (x7 : Int)) := by rw [hw1]; exact c7
          have dk : w1.cell? ⟨w.heap.size + 1 + 1 + 1, m, none⟩ = some (.int .u32 ((padZ 64 l).getD m 0 : Nat)) := by rw [hw1]; exact ck
          have df : w1.frozen? ⟨w.heap.size + 1 + 1 + 1, m, none⟩ = false := by rw [hw1]; exact fk
          clear hw1 c16 c15 c7 c2 ck fk HW
          go_wp2_with fail
          go_quiet (first | (go_at_call 41; exact Calls.quiet_of_same (turn_q 17 x2 r17 _ _ rfl (by decide) (by decide) l2 HR.out.2.2.1)) | (go_at_call 41; exact Calls.quiet_of_same (turn_q 19 x2 r19 _ _ rfl (by decide) (by decide) l2 HR.out.2.2.2)))
          rename Nat => nz
          obtain ⟨w2, hw2⟩ : ∃ w2, w2 = w1.drewN nz := ⟨_, rfl⟩
          rw [← hw2]
          have HW2 : Hid (BlkW w w2 l0 K (padZ 64 l)) := by rw [hw2]; exact HW1.out.drewN nz
          have f16 : w2.cell? ⟨w.heap.size + 1 + 1 + 1, a16, none⟩ = some (.int .u32 (x16 : Int)) := by rw [hw2]; exact d16
          have f7 : w2.cell? ⟨w.heap.size + 1 + 1 + 1, a7, none⟩ = some (.int .u32 (x7 : Int)) := by rw [hw2]; exact d7
          have gk : w2.cell? ⟨w.heap.size + 1 + 1 + 1, m, none⟩ = some (.int .u32 ((padZ 64 l).getD m 0 : Nat)) := by rw [hw2]; exact dk
          have gf : w2.frozen? ⟨w.heap.size + 1 + 1 + 1, m, none⟩ = false := by rw [hw2]; exact df
          clear hw2 d16 d7 d2 dk df HW1
          go_wp2_with fail
          go_region
          obtain ⟨w3, hw3⟩ : ∃ w3, w3 = (w2.setCell ⟨w.heap.size + 1 + 1 + 1, m, none⟩ (.int .u32 (((x16 : Int) + s0 + x7 + s1) % 4294967296))).drew := ⟨_, rfl⟩
          rw [← hw3]
          have HW3 : BlkW w w3 l0 K (padZ 64 (sched s.data.toList (n + 1))) := by
            have hW := HW2.out
            obtain ⟨hl, hm, hlk⟩ := HL.out
            rw [hw3]
            have := (hW.set m (nextW l) (((x16 : Int) + s0 + x7 + s1) % 4294967296) (by rw [HN.out]; omega)).drew
            have hset := padZ_set 64 l (nextW l) (by omega)
            rw [hlk] at hset
            rw [hset] at this
            rw [sched, ← hl]
            exact this
          have hm2 := HL.out.2.1
          clear hw3 HW2 HN HR f16 f7 gk gf x0 x1 x3 x4 q16 q15 q7 q2
          go_wp2_with fail
          go_roundw
          case rel => exact ⟨n + 1, by go_num, by omega, HW3⟩
          case measure => simp [intOf]; omega
        · have hn48 : n = 48 := by omega
          have hm' : ¬ ((m : Int) < 64) := by omega
          rw [padZ_full 64 l (by omega)] at hW
          have HLL : Hid (l = sched s.data.toList 48 ∧ l.length = 64 ∧ (∀ x ∈ l, x < 4294967296) ∧ BlkW w wr l0 K l) := ⟨by rw [hl, hn48], by omega, hlt32, hW⟩
          have hrow : wr.heap[w.heap.size]? = some (.cells (kV .u32 l0).toArray 45 (0, 0)) := hW.row
          have HI8 : Hid ((Tryd.prog.info? 45).map (·.size) = some (kV .u32 l0).toArray.size) := by
            unfold Hid
            rw [show (kV .u32 l0).toArray.size = 8 by simp [kV, HL0.out.2.1]]; kernel_rfl
          have hsz : Hid (8 = (kV .u32 l0).toArray.size) := by unfold Hid; simp [kV, HL0.out.2.1]
          clear hW hl hn48 hlt hll hlt32 hm hn
          go_wp2_with (first
            | (refine wpList_load_row rfl 45 (.tmp 3) rfl w.heap.size rfl 45 (kV .u32 l0).toArray (0, 0) _ hrow Tryd.underlying45 rfl HI8.out ?_)
            | (refine wpList_store_row rfl 45 (.tmp 12) (.tmp 110) rfl wr.heap.size (kV .u32 l0).toArray rfl rfl 45 _ (heap_alloc_last wr _) HI8.out hsz.out (kV_one _ _) ?_))
          clear hrow
          rw [zeros8]
          obtain ⟨w6, hw6⟩ : ∃ w6, w6 = (wr.alloc (.cells (kV .u32 (List.replicate 8 0)).toArray 45)).setRow wr.heap.size (kV .u32 l0).toArray := ⟨_, rfl⟩
          rw [← hw6]
          obtain ⟨S, hS⟩ : ∃ S, S = wr.heap.size := ⟨_, rfl⟩
          rw [← hS]
          have hW6 : Blk2 w w6 S l0 K l l0 := by
            obtain ⟨_, _, _, hW⟩ := HLL.out
            have hz := hW.size
            rw [hw6, hS]
            exact ⟨(hW.row.alloc _).rowOther (by omega), (hW.keys.alloc _).rowOther (by omega), (hW.out.alloc _).rowOther (by omega), (hW.sch.alloc _).rowOther (by omega), Row.stored (Row.new wr 45 .u32 (List.replicate 8 0)), below_setRow (hW.below.alloc hW.below.size _) hW.below.size _, hz⟩
          have HL : Hid (l = sched s.data.toList 48 ∧ l.length = 64 ∧ (∀ x ∈ l, x < 4294967296)) := ⟨HLL.out.1, HLL.out.2.1, HLL.out.2.2.1⟩
          clear hw6 hS HLL
          go_loopw [13] (fun i wx => ∃ k : Nat, i = .int .i64 k ∧ k ≤ 64 ∧ Blk2 w wx S l0 K l (turns keysN l st k).list) (fun i _ => 64 - (intOf i).toNat)
          case atStart => exact ⟨0, rfl, by omega, by rw [turns, ← HL0.out.1]; exact hW6⟩
          case round =>
            obtain ⟨i, rfl, hi, hW⟩ := hrel
            clear hW6
            by_cases hlt : i < 64
            · have bi : (i : Int) < 64 := by omega
              obtain ⟨t, ht⟩ : ∃ t, t = turns keysN l st i := ⟨_, rfl⟩
              have hok : t.ok := by rw [ht]; exact turns_ok _ _ _ HL0.out.2.2.2 _
              rw [← ht] at hW
              obtain ⟨a, b, c, d, e, f, g, hh⟩ := t
              obtain ⟨la, lb, lc, ld, le, lf, lg, lh⟩ := hok
              simp only at la lb lc ld le lf lg lh
              obtain ⟨x, hx⟩ : ∃ x, x = l.getD i 0 := ⟨_, rfl⟩
              obtain ⟨y, hy⟩ : ∃ y, y = K.getD i 0 := ⟨_, rfl⟩
              obtain ⟨r6, h6⟩ : ∃ r, r = rot 6 e := ⟨_, rfl⟩
              obtain ⟨r11, h11⟩ : ∃ r, r = rot 11 e := ⟨_, rfl⟩
              obtain ⟨r25, h25⟩ : ∃ r, r = rot 25 e := ⟨_, rfl⟩
              obtain ⟨r2, h2⟩ : ∃ r, r = rot 2 a := ⟨_, rfl⟩
              obtain ⟨r13, h13⟩ : ∃ r, r = rot 13 a := ⟨_, rfl⟩
              obtain ⟨r22, h22⟩ : ∃ r, r = rot 22 a := ⟨_, rfl⟩
              have m6 : r6 < 4294967296 := by rw [h6]; exact rot_lt _ _ le
              have m11 : r11 < 4294967296 := by rw [h11]; exact rot_lt _ _ le
              have m25 : r25 < 4294967296 := by rw [h25]; exact rot_lt _ _ le
              have m2 : r2 < 4294967296 := by rw [h2]; exact rot_lt _ _ la
              have m13 : r13 < 4294967296 := by rw [h13]; exact rot_lt _ _ la
              have m22 : r22 < 4294967296 := by rw [h22]; exact rot_lt _ _ la
              obtain ⟨pE, hpE⟩ : ∃ r, r = r6 ^^^ r11 := ⟨_, rfl⟩
              obtain ⟨E, hE⟩ : ∃ r, r = r6 ^^^ r11 ^^^ r25 := ⟨_, rfl⟩
              obtain ⟨pA, hpA⟩ : ∃ r, r = r2 ^^^ r13 := ⟨_, rfl⟩
              obtain ⟨A, hA⟩ : ∃ r, r = r2 ^^^ r13 ^^^ r22 := ⟨_, rfl⟩
              obtain ⟨xe1, xe2⟩ := xor3 r6 r11 r25 m6 m11 m25 pE E hpE hE
              obtain ⟨xa1, xa2⟩ := xor3 r2 r13 r22 m2 m13 m22 pA A hpA hA
              obtain ⟨q1, hq1⟩ : ∃ r, r = e &&& f := ⟨_, rfl⟩
              obtain ⟨q2, hq2⟩ : ∃ r, r = (e ^^^ 4294967295) &&& g := ⟨_, rfl⟩
              obtain ⟨ch, hch⟩ : ∃ r, r = q1 ^^^ q2 := ⟨_, rfl⟩
              obtain ⟨q3, hq3⟩ : ∃ r, r = a &&& b := ⟨_, rfl⟩
              obtain ⟨q4, hq4⟩ : ∃ r, r = a &&& c := ⟨_, rfl⟩
              obtain ⟨q5, hq5⟩ : ∃ r, r = b &&& c := ⟨_, rfl⟩
              obtain ⟨q6, hq6⟩ : ∃ r, r = q3 ^^^ q4 := ⟨_, rfl⟩
              obtain ⟨mo, hmo⟩ : ∃ r, r = q3 ^^^ q4 ^^^ q5 := ⟨_, rfl⟩
              have n1 : q1 < 4294967296 := by rw [hq1]; exact and_lt32 _ _ le
              have n2 : q2 < 4294967296 := by rw [hq2]; exact and_lt32 _ _ (xor_lt32 _ _ le (by omega))
              have n3 : q3 < 4294967296 := by rw [hq3]; exact and_lt32 _ _ la
              have n4 : q4 < 4294967296 := by rw [hq4]; exact and_lt32 _ _ la
              have n5 : q5 < 4294967296 := by rw [hq5]; exact and_lt32 _ _ lb
              have y1 : bits .and .u32 (e : Int) (f : Int) = (q1 : Int) := by rw [hq1]; exact u32_and_nat _ _ le lf
              obtain ⟨ne, hne⟩ : ∃ r, r = e ^^^ 4294967295 := ⟨_, rfl⟩
              have y0 : bits .xor .u32 (e : Int) 4294967295 = (ne : Int) := by
                rw [show (4294967295 : Int) = ((4294967295 : Nat) : Int) from rfl, u32_xor_nat _ _ le (by omega), hne]
              have y2 : bits .and .u32 (ne : Int) (g : Int) = (q2 : Int) := by rw [hq2, ← hne]; exact u32_and_nat _ _ (by rw [hne]; exact xor_lt32 _ _ le (by omega)) lg
              have y3 : bits .xor .u32 (q1 : Int) (q2 : Int) = (ch : Int) := by rw [hch]; exact u32_xor_nat _ _ n1 n2
              have y4 : bits .and .u32 (a : Int) (b : Int) = (q3 : Int) := by rw [hq3]; exact u32_and_nat _ _ la lb
              have y5 : bits .and .u32 (a : Int) (c : Int) = (q4 : Int) := by rw [hq4]; exact u32_and_nat _ _ la lc
              have y6 : bits .and .u32 (b : Int) (c : Int) = (q5 : Int) := by rw [hq5]; exact u32_and_nat _ _ lb lc
              obtain ⟨y7, y8⟩ := xor3 q3 q4 q5 n3 n4 n5 q6 mo hq6 hmo
              obtain ⟨o, ho⟩ : ∃ o, o = (hh + E + ch + y + x) % 4294967296 := ⟨_, rfl⟩
              have y9 : ((hh : Int) + E + ch + y + x) % 4294967296 = (o : Int) := by rw [ho]; omega
              have HR : Hid (r6 = rot 6 e ∧ r11 = rot 11 e ∧ r25 = rot 25 e ∧ r2 = rot 2 a ∧ r13 = rot 13 a ∧ r22 = rot 22 a) := ⟨h6, h11, h25, h2, h13, h22⟩
              have HO : Hid (o = low ⟨a, b, c, d, e, f, g, hh⟩ y x ∧ A = big0 a ∧ mo = most a b c) := by
                refine ⟨?_, by rw [hA, h2, h13, h22]; rfl, by rw [hmo, hq3, hq4, hq5]; rfl⟩
                have eE : E = big1 e := by rw [hE, h6, h11, h25]; rfl
                have ec : ch = choose e f g := by rw [hch, hq1, hq2]; rfl
                rw [ho, eE, ec]
                unfold low
                simp only
                omega
              have HK : Hid (x = l.getD i 0 ∧ y = keysN.getD i 0) := ⟨hx, by rw [hy, HL0.out.2.2.1]⟩
              obtain ⟨tw, htw⟩ : ∃ r, r = (A + mo) % 4294967296 := ⟨_, rfl⟩
              have y10 : ((A : Int) + mo) % 4294967296 = (tw : Int) := by rw [htw]; omega
              have HTW : Hid (tw = (A + mo) % 4294967296) := htw
              clear htw h6 h11 h25 h2 h13 h22 hpE hE hpA hA hq1 hq2 hq3 hq4 hq5 hq6 hch hmo hne ho hx hy
              have HW : Hid (Blk2 w wr S l0 K l (St.mk a b c d e f g hh).list ∧ ⟨a, b, c, d, e, f, g, hh⟩ = turns keysN l st i) := ⟨hW, ht⟩
              obtain ⟨c0, c1, c2, c3, c4, c5, c6, c7, cf⟩ := cells8 _ hW.sst
              simp only at c0 c1 c2 c3 c4 c5 c6 c7
              clear hW ht cf c0 c1 c2 c3 c5 c6 c7
              go_wp2_with fail
              go_quiet (first | (go_at_call 41; exact Calls.quiet_of_same (turn_q 6 e r6 _ _ rfl (by decide) (by decide) le HR.out.1)) | (go_at_call 41; exact Calls.quiet_of_same (turn_q 11 e r11 _ _ rfl (by decide) (by decide) le HR.out.2.1)) | (go_at_call 41; exact Calls.quiet_of_same (turn_q 25 e r25 _ _ rfl (by decide) (by decide) le HR.out.2.2.1)))
              rename Nat => n1
              obtain ⟨w1, hw1⟩ : ∃ w1, w1 = wr.drewN n1 := ⟨_, rfl⟩
              rw [← hw1]
              have HW1 : Hid (Blk2 w w1 S l0 K l (St.mk a b c d e f g hh).list) := by rw [hw1]; exact HW.out.1.drewN n1
              have HTt : Hid (⟨a, b, c, d, e, f, g, hh⟩ = turns keysN l st i) := HW.out.2
              obtain ⟨c0, c1, c2, c3, d4, c5, c6, c7, cf⟩ := cells8 _ HW1.out.sst
              simp only at c0 c1 c2 c3 d4 c5 c6 c7
              have ckey : w1.cell? ⟨w.heap.size + 1, i, none⟩ = some (.int .u32 (y : Int)) := by
                rw [HW1.out.keys.cell i (by rw [HL0.out.2.2.1, keysN_length]; exact hlt), HK.out.2, HL0.out.2.2.1]
              have csch : w1.cell? ⟨w.heap.size + 1 + 1 + 1, i, none⟩ = some (.int .u32 (x : Int)) := by
                rw [HW1.out.sch.cell i (by rw [HL.out.2.1]; exact hlt), HK.out.1]
              clear hw1 c4 HW cf
              go_wp2_with fail
              go_quiet (fail)
              rename Nat => n2
              obtain ⟨w2, hw2⟩ : ∃ w2, w2 = w1.drewN n2 := ⟨_, rfl⟩
              rw [← hw2]
              have HW2 : Hid (Blk2 w w2 S l0 K l (St.mk a b c d e f g hh).list) := by rw [hw2]; exact HW1.out.drewN n2
              clear hw2 HW1 c0 c1 c2 c3 d4 c5 c6 c7 ckey csch
              obtain ⟨c0, c1, c2, c3, c4, c5, c6, c7, cf⟩ := cells8 _ HW2.out.sst
              simp only at c0 c1 c2 c3 c4 c5 c6 c7
              clear cf c1 c2 c3 c4 c5 c6 c7
              go_wp2_with fail
              go_quiet (first | (go_at_call 41; exact Calls.quiet_of_same (turn_q 2 a r2 _ _ rfl (by decide) (by decide) la HR.out.2.2.2.1)) | (go_at_call 41; exact Calls.quiet_of_same (turn_q 13 a r13 _ _ rfl (by decide) (by decide) la HR.out.2.2.2.2.1)) | (go_at_call 41; exact Calls.quiet_of_same (turn_q 22 a r22 _ _ rfl (by decide) (by decide) la HR.out.2.2.2.2.2)))
              rename Nat => n3
              obtain ⟨w3, hw3⟩ : ∃ w3, w3 = w2.drewN n3 := ⟨_, rfl⟩
              rw [← hw3]
              have HW3 : Hid (Blk2 w w3 S l0 K l (St.mk a b c d e f g hh).list) := by rw [hw3]; exact HW2.out.drewN n3
              clear hw3 HW2 c0
              obtain ⟨c0, c1, c2, c3, c4, c5, c6, c7, cf⟩ := cells8 _ HW3.out.sst
              simp only at c0 c1 c2 c3 c4 c5 c6 c7
              have f0 := cf 0
              have f1 := cf 1
              have f2 := cf 2
              have f3 := cf 3
              have f4 := cf 4
              have f5 := cf 5
              have f6 := cf 6
              have f7 := cf 7
              clear cf
              go_wp2_with fail
              go_roundw
              case rel =>
                refine ⟨i + 1, by go_num, by omega, ?_⟩
                have hO := HO.out
                have e1 : (turns keysN l st (i + 1)) = ⟨(o + tw) % 4294967296, a, b, c, (d + o) % 4294967296, e, f, g⟩ := by
                  rw [turns, ← HTt.out, ← HK.out.1, ← HK.out.2]
                  unfold turnSt high
                  simp only
                  rw [← hO.1, ← hO.2.1, ← hO.2.2, HTW.out]
                  congr 1
                  omega
                rw [e1]
                exact (((((((HW3.out.set 7 g _ rfl).set 6 f _ rfl).set 5 e _ rfl).set 4 ((d + o) % 4294967296) _ (by omega)).set 3 c _ rfl).set 2 b _ rfl).set 1 a _ rfl).set 0 ((o + tw) % 4294967296) _ (by omega)
              case measure => simp [intOf]; omega
            · have hi64 : i = 64 := by omega
              have bi : ¬ ((i : Int) < 64) := by omega
              obtain ⟨t, ht⟩ : ∃ t : St, t = turns keysN l st 64 := ⟨_, rfl⟩
              rw [hi64, ← ht] at hW
              have HT : Hid (t = turns keysN l st 64) := ht
              clear ht hi64 hlt
              go_wp2_with fail
              go_loopw [20] (fun i wx => ∃ n : Nat, i = .int .i64 n ∧ n ≤ 8 ∧ Blk2 w wx S (addUpto l0 t.list n) K l t.list) (fun i _ => 8 - (intOf i).toNat)
              case atStart =>
                refine ⟨0, rfl, by omega, ?_⟩
                rw [HL0.out.1, addUpto_zero, ← HL0.out.1]
                exact hW
              case round =>
                obtain ⟨q, rfl, hq, hQ⟩ := hrel
                clear hW
                by_cases hlt : q < 8
                · have bq : (q : Int) < 8 := by omega
                  obtain ⟨x, hx⟩ : ∃ x, x = t.list.getD q 0 := ⟨_, rfl⟩
                  obtain ⟨y, hy⟩ : ∃ y, y = l0.getD q 0 := ⟨_, rfl⟩
                  have cx := hQ.sst.cell q hlt
                  rw [← hx] at cx
                  have cy := hQ.row.cell q (by rw [addUpto_length]; exact hlt)
                  rw [addUpto_getD _ _ _ hlt, ← hy] at cy
                  have fy := hQ.row.frozen q
                  have HQ : Hid (Blk2 w wr S (addUpto l0 t.list q) K l t.list ∧ x = t.list.getD q 0 ∧ y = l0.getD q 0) := ⟨hQ, hx, hy⟩
                  clear hQ hx hy
                  go_wp2_with fail
                  go_region
                  go_wp2_with fail
                  go_roundw
                  case rel =>
                    refine ⟨q + 1, by go_num, by omega, ?_⟩
                    obtain ⟨hQ, hx, hy⟩ := HQ.out
                    rw [← addUpto_set l0 t.list q hlt, ← hx, ← hy]
                    exact (hQ.set0 q ((y + x) % 4294967296) _ (by omega)).drew
                  case measure => simp [intOf]; omega
                · have hq8 : q = 8 := by omega
                  have bq : ¬ ((q : Int) < 8) := by omega
                  rw [hq8, HL0.out.1, addUpto_full, HT.out, HL.out.1] at hQ
                  obtain ⟨R, hR⟩ : ∃ R : List Nat, R = (blockSt st s.data.toList).list := ⟨_, rfl⟩
                  have hRl : R.length = 8 := by rw [hR]; rfl
                  have hrow : wr.heap[w.heap.size]? = some (.cells (kV .u32 R).toArray 45 (0, 0)) := by rw [hR]; exact hQ.row
                  have hout : wr.heap[w.heap.size + 1 + 1]? = some (.cells (kV .u32 (List.replicate 8 0)).toArray 45 (0, 0)) := hQ.out
                  have hbel : Hid (Below w.heap.size w wr) := hQ.below
                  have hst : Hid (Row wr (w.heap.size + 1 + 1) 45 .u32 (List.replicate 8 0)) := hQ.out
                  have hsz : Hid ((kV .u32 (List.replicate 8 0)).toArray.size = (kV .u32 R).toArray.size) := by unfold Hid; simp [kV, hRl]
                  have HIR : Hid ((Tryd.prog.info? 45).map (·.size) = some (kV .u32 R).toArray.size) := by
                    unfold Hid
                    rw [show (kV .u32 R).toArray.size = 8 by simp [kV, hRl]]; kernel_rfl
                  have HRe : Hid (R = (blockSt st s.data.toList).list) := hR
                  clear hQ hR hq8 hRl
                  go_wp2_with (first
                    | (refine wpList_load_row rfl 45 (.tmp 3) rfl w.heap.size rfl 45 (kV .u32 R).toArray (0, 0) _ hrow Tryd.underlying45 rfl HIR.out ?_)
                    | (refine wpList_store_row rfl 45 (.tmp 6) (.tmp 223) rfl (w.heap.size + 1 + 1) (kV .u32 R).toArray rfl rfl 45 _ hout HIR.out hsz.out (kV_one _ _) ?_))
                  exact bodyPost_ret (results_cell_row Tryd.results34 _ _ (w.heap.size + 1 + 1) 45 (kV .u32 R).toArray (0, 0) _ rfl (Row.stored hst.out) Tryd.underlying45 rfl HIR.out) rfl ⟨by rw [HRe.out], below_setRow hbel.out (by omega) _⟩

end Go.Proofs.YtfbdbeaijkhbfaaDoor
