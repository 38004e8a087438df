/- What impl.shaSchedule answers at a block of 64 bytes: the schedule. -/
import Derived.Test.YtfbdbeaijkhbfaaDoorShaRot
import Derived.Test.YtfbdbeaijkhbfaaDoorShaRow
import Derived.WalkSpells
import Derived.BigRegion
import Derived.Laws.CopyOwn
import Derived.BigQuiet
import Derived.Deep.QuietTactic
namespace Go.Proofs.YtfbdbeaijkhbfaaDoor
open Go.RowKit
set_option linter.unusedVariables false

theorem zeros64 : (#[.int .u32 0, .int .u32 0, .int .u32 0, .int .u32 0, .int .u32 0, .int .u32 0, .int .u32 0, .int .u32 0, .int .u32 0, .int .u32 0, .int .u32 0, .int .u32 0, .int .u32 0, .int .u32 0, .int .u32 0, .int .u32 0, .int .u32 0, .int .u32 0, .int .u32 0, .int .u32 0, .int .u32 0, .int .u32 0, .int .u32 0, .int .u32 0, .int .u32 0, .int .u32 0, .int .u32 0, .int .u32 0, .int .u32 0, .int .u32 0, .int .u32 0, .int .u32 0, .int .u32 0, .int .u32 0, .int .u32 0, .int .u32 0, .int .u32 0, .int .u32 0, .int .u32 0, .int .u32 0, .int .u32 0, .int .u32 0, .int .u32 0, .int .u32 0, .int .u32 0, .int .u32 0, .int .u32 0, .int .u32 0, .int .u32 0, .int .u32 0, .int .u32 0, .int .u32 0, .int .u32 0, .int .u32 0, .int .u32 0, .int .u32 0, .int .u32 0, .int .u32 0, .int .u32 0, .int .u32 0, .int .u32 0, .int .u32 0, .int .u32 0, .int .u32 0] : Array Value) = (kV .u32 (List.replicate 64 0)).toArray := rfl

/-- The world in which shaSchedule works: its answer's block, then the words'. -/
structure SchedW (w wr : World) (l : List Nat) : Prop where
  out : Row wr w.heap.size 58 .u32 (List.replicate 64 0)
  row : Row wr (w.heap.size + 1) 58 .u32 (padZ 64 l)
  below : Below w.heap.size w wr
  size : wr.heap.size = w.heap.size + 2

set_option maxRecDepth 100000 in
set_option maxHeartbeats 1000000 in
theorem sched_any (s : ByteArray) (w : World) (hs : s.size = 64) :
    Calls Tryd.prog 39 #[.string s] w fun e w' => e = .returned (.agg (kV .u32 (sched s.data.toList 48)).toArray) ∧ Below w.heap.size w w' := by
  go_enter Tryd.func39, Tryd.ntmps39
  go_wp2
  rw [zeros64]
  go_loopw [9] (fun i wr => ∃ k : Nat, i = .int .i64 k ∧ k ≤ 16 ∧ SchedW w wr (firstW s.data.toList k)) (fun i _ => 16 - (intOf i).toNat)
  case atStart =>
    refine ⟨0, rfl, by omega, ⟨(Row.new _ _ _ _).alloc _, ?_, ((Below.refl _ _).alloc (Nat.le_refl _) _).alloc (by simp) _, by simp⟩⟩
    have := Row.new (w.alloc (.cells (kV .u32 (List.replicate 64 0)).toArray 58)) 58 .u32 (List.replicate 64 0)
    simpa [padZ, firstW] using this
  case round =>
    obtain ⟨k, rfl, hk, hW⟩ := hrel
    by_cases hlt : k < 16
    · obtain ⟨j, hj⟩ : ∃ j, j = 4 * k := ⟨_, rfl⟩
      obtain ⟨j1, hj1⟩ : ∃ j1, j1 = j + 1 := ⟨_, rfl⟩
      obtain ⟨j2, hj2⟩ : ∃ j2, j2 = j + 2 := ⟨_, rfl⟩
      obtain ⟨j3, hj3⟩ : ∃ j3, j3 = j + 3 := ⟨_, rfl⟩
      have b0 : j < s.size := by omega
      have b1 : j1 < s.size := by omega
      have b2 : j2 < s.size := by omega
      have b3 : j3 < s.size := by omega
      obtain ⟨c0, hc0⟩ : ∃ c, s[j]'b0 = c := ⟨_, rfl⟩
      obtain ⟨c1, hc1⟩ : ∃ c, s[j1]'b1 = c := ⟨_, rfl⟩
      obtain ⟨c2, hc2⟩ : ∃ c, s[j2]'b2 = c := ⟨_, rfl⟩
      obtain ⟨c3, hc3⟩ : ∃ c, s[j3]'b3 = c := ⟨_, rfl⟩
      have e0 : 4 * (k : Int) = (j : Int) := by omega
      have e1 : (j : Int) + 1 = (j1 : Int) := by omega
      have e2 : (j : Int) + 2 = (j2 : Int) := by omega
      have e3 : (j : Int) + 3 = (j3 : Int) := by omega
      have i0 : (j : Int) < (s.size : Int) := by omega
      have i1 : (j1 : Int) < (s.size : Int) := by omega
      have i2 : (j2 : Int) < (s.size : Int) := by omega
      have i3 : (j3 : Int) < (s.size : Int) := by omega
      have hcell := hW.row.cell k (by rw [padZ_length _ _ (by rw [firstW_length]; omega)]; omega)
      have hfz := hW.row.frozen k
      have HW : Hid (SchedW w wr (firstW s.data.toList k) ∧ j = 4 * k ∧ j1 = j + 1 ∧ j2 = j + 2 ∧ j3 = j + 3) := ⟨hW, hj, hj1, hj2, hj3⟩
      have HS : Hid (s.size = 64) := hs
      clear hW hj hj1 hj2 hj3 hs
      go_wp2
      go_region
      obtain ⟨w2, hw2⟩ : ∃ w2, w2 = (wr.setCell ⟨w.heap.size + 1, k, none⟩ (.int .u32 (bits .or .u32 (bits .or .u32 (bits .or .u32 ((c0.toNat : Int) % 4294967296 * 16777216 % 4294967296) ((c1.toNat : Int) % 4294967296 * 65536 % 4294967296)) ((c2.toNat : Int) % 4294967296 * 256 % 4294967296)) ((c3.toNat : Int) % 4294967296)))).drew := ⟨_, rfl⟩
      rw [← hw2]
      have HW2 : SchedW w w2 (firstW s.data.toList (k + 1)) := by
        obtain ⟨hW, q0, q1, q2, q3⟩ := HW.out
        have hS := HS.out
        rw [hw2]
        have hl := firstW_length s.data.toList k
        refine ⟨(hW.out.other (by omega)).drew, ?_, (hW.below.setCell (by show w.heap.size ≤ w.heap.size + 1; omega) _).drew, by show (wr.setCell _ _).heap.size = _; rw [World.size_setCell]; exact hW.size⟩
        have := (hW.row.set k (be (byteD s.data.toList (4 * k)) (byteD s.data.toList (4 * k + 1)) (byteD s.data.toList (4 * k + 2)) (byteD s.data.toList (4 * k + 3))) _ (be_bits c0.toNat c1.toNat c2.toNat c3.toNat c0.toNat_lt c1.toNat_lt c2.toNat_lt c3.toNat_lt |>.trans (by
          rw [byteD_at s _ (by omega), byteD_at s _ (by omega), byteD_at s _ (by omega), byteD_at s _ (by omega), ← hc0, ← hc1, ← hc2, ← hc3]
          subst q3 q2 q1 q0
          rfl))).drew
        have hset := padZ_set 64 (firstW s.data.toList k) (be (byteD s.data.toList (4 * k)) (byteD s.data.toList (4 * k + 1)) (byteD s.data.toList (4 * k + 2)) (byteD s.data.toList (4 * k + 3))) (by omega)
        rw [hl] at hset
        rw [hset] at this
        exact this
      clear hw2 hcell hfz hc0 hc1 hc2 hc3 e0 e1 e2 e3 i0 i1 i2 i3 HW
      go_wp2
      go_roundw
      case rel => exact ⟨k + 1, by go_num, by omega, HW2⟩
      case measure => simp [intOf]; omega
    · have hk16 : k = 16 := by omega
      have HS0 : SchedW w wr (sched s.data.toList 0) := by rw [hk16] at hW; exact hW
      have hlt' : ¬ ((k : Int) < 16) := by omega
      clear hW hk16 hlt
      go_wp2
      go_loopw [6] (fun i wx => ∃ n : Nat, i = .int .i64 ((16 + n : Nat) : Int) ∧ n ≤ 48 ∧ SchedW w wx (sched s.data.toList n)) (fun i _ => 64 - (intOf i).toNat)
      case atStart => exact ⟨0, rfl, by omega, HS0⟩
      case round =>
        obtain ⟨n, rfl, hn, hW⟩ := hrel
        clear HS0
        obtain ⟨l, hl⟩ : ∃ l, l = sched s.data.toList n := ⟨_, rfl⟩
        have hll : l.length = 16 + n := by rw [hl]; exact sched_length _ _
        have hlt32 : ∀ x ∈ l, x < 4294967296 := by rw [hl]; exact sched_lt _ _
        rw [← hl] at hW
        obtain ⟨m, hm⟩ : ∃ m, m = 16 + n := ⟨_, rfl⟩
        rw [← hm]
        by_cases hlt : n < 48
        · obtain ⟨a16, h16⟩ : ∃ a, a = m - 16 := ⟨_, rfl⟩
          obtain ⟨a15, h15⟩ : ∃ a, a = m - 15 := ⟨_, rfl⟩
          obtain ⟨a7, h7⟩ : ∃ a, a = m - 7 := ⟨_, rfl⟩
          obtain ⟨a2, h2⟩ : ∃ a, a = m - 2 := ⟨_, rfl⟩
          obtain ⟨x16, y16⟩ : ∃ x, x = l.getD a16 0 := ⟨_, rfl⟩
          obtain ⟨x15, y15⟩ : ∃ x, x = l.getD a15 0 := ⟨_, rfl⟩
          obtain ⟨x7, y7⟩ : ∃ x, x = l.getD a7 0 := ⟨_, rfl⟩
          obtain ⟨x2, y2⟩ : ∃ x, x = l.getD a2 0 := ⟨_, rfl⟩
          have q16 : (m : Int) - 16 = (a16 : Int) := by omega
          have q15 : (m : Int) - 15 = (a15 : Int) := by omega
          have q7 : (m : Int) - 7 = (a7 : Int) := by omega
          have q2 : (m : Int) - 2 = (a2 : Int) := by omega
          have bk : (m : Int) < 64 := by omega
          have b16 : (a16 : Int) < 64 := by omega
          have b15 : (a15 : Int) < 64 := by omega
          have b7 : (a7 : Int) < 64 := by omega
          have b2 : (a2 : Int) < 64 := by omega
          have hpl := padZ_length 64 l (by omega)
          have c16 := hW.row.cell a16 (by omega)
          have c15 := hW.row.cell a15 (by omega)
          have c7 := hW.row.cell a7 (by omega)
          have c2 := hW.row.cell a2 (by omega)
          rw [padZ_getD 64 l _ (by omega), ← y16] at c16
          rw [padZ_getD 64 l _ (by omega), ← y15] at c15
          rw [padZ_getD 64 l _ (by omega), ← y7] at c7
          rw [padZ_getD 64 l _ (by omega), ← y2] at c2
          have ck := hW.row.cell m (by omega)
          have fk := hW.row.frozen m
          have l15 : x15 < 4294967296 := by rw [y15]; exact getD_lt32 hlt32 _
          have l2 : x2 < 4294967296 := by rw [y2]; exact getD_lt32 hlt32 _
          obtain ⟨r7, hr7⟩ : ∃ r, r = rot 7 x15 := ⟨_, rfl⟩
          obtain ⟨r18, hr18⟩ : ∃ r, r = rot 18 x15 := ⟨_, rfl⟩
          obtain ⟨r17, hr17⟩ : ∃ r, r = rot 17 x2 := ⟨_, rfl⟩
          obtain ⟨r19, hr19⟩ : ∃ r, r = rot 19 x2 := ⟨_, rfl⟩
          obtain ⟨s0, hs0⟩ : ∃ r, r = sml0 x15 := ⟨_, rfl⟩
          obtain ⟨s1, hs1⟩ : ∃ r, r = sml1 x2 := ⟨_, rfl⟩
          obtain ⟨p0, hp0⟩ : ∃ r, r = r7 ^^^ r18 := ⟨_, rfl⟩
          obtain ⟨p1, hp1⟩ : ∃ r, r = r17 ^^^ r19 := ⟨_, rfl⟩
          have m7 : r7 < 4294967296 := by rw [hr7]; exact rot_lt _ _ l15
          have m18 : r18 < 4294967296 := by rw [hr18]; exact rot_lt _ _ l15
          have m17 : r17 < 4294967296 := by rw [hr17]; exact rot_lt _ _ l2
          have m19 : r19 < 4294967296 := by rw [hr19]; exact rot_lt _ _ l2
          have x0 : bits .xor .u32 (r7 : Int) (r18 : Int) = (p0 : Int) := by rw [u32_xor_nat _ _ m7 m18, hp0]
          have x1 : bits .xor .u32 (r17 : Int) (r19 : Int) = (p1 : Int) := by rw [u32_xor_nat _ _ m17 m19, hp1]
          have x3 : bits .xor .u32 (p0 : Int) ((x15 : Int) / 8) = (s0 : Int) := by
            rw [show (x15 : Int) / 8 = ((x15 / 8 : Nat) : Int) by simp, u32_xor_nat _ _ (by rw [hp0]; exact xor_lt32 _ _ m7 m18) (by omega), hs0, hp0, hr7, hr18]; rfl
          have x4 : bits .xor .u32 (p1 : Int) ((x2 : Int) / 1024) = (s1 : Int) := by
            rw [show (x2 : Int) / 1024 = ((x2 / 1024 : Nat) : Int) by simp, u32_xor_nat _ _ (by rw [hp1]; exact xor_lt32 _ _ m17 m19) (by omega), hs1, hp1, hr17, hr19]; rfl
          have HR : Hid (r7 = rot 7 x15 ∧ r18 = rot 18 x15 ∧ r17 = rot 17 x2 ∧ r19 = rot 19 x2) := ⟨hr7, hr18, hr17, hr19⟩
          have HN : Hid (nextW l = (((x16 + s0) % 4294967296 + x7) % 4294967296 + s1) % 4294967296) := by
            unfold Hid nextW
            rw [hll, ← hm, ← h16, ← h15, ← h7, ← h2, ← y16, ← y15, ← y7, ← y2, ← hs0, ← hs1]
          have HL : Hid (l = sched s.data.toList n ∧ m = 16 + n ∧ l.length = m) := ⟨hl, hm, by omega⟩
          have HW : Hid (SchedW w wr l) := hW
          clear hW hl hm h16 h15 h7 h2 y16 y15 y7 y2 hr7 hr18 hr17 hr19 hs0 hs1 hp0 hp1 hpl hll hlt32
          go_wp2
          go_region
          go_wp2_with fail
          refine (rotl_at 7 25 x15 r7 _ _ rfl rfl (by omega) (by omega) l15 HR.out.1).mono ?_
          rintro e w1 ⟨rfl, rfl⟩
          go_wp2_with fail
          refine (rotl_at 18 14 x15 r18 _ _ rfl rfl (by omega) (by omega) l15 HR.out.2.1).mono ?_
          rintro e w1 ⟨rfl, rfl⟩
          go_wp2_with fail
          refine (rotl_at 17 15 x2 r17 _ _ rfl rfl (by omega) (by omega) l2 HR.out.2.2.1).mono ?_
          rintro e w1 ⟨rfl, rfl⟩
          go_wp2_with fail
          refine (rotl_at 19 13 x2 r19 _ _ rfl rfl (by omega) (by omega) l2 HR.out.2.2.2).mono ?_
          rintro e w1 ⟨rfl, rfl⟩
          go_wp2
          go_region
          obtain ⟨w2, hw2⟩ : ∃ w2, w2 = (wr.setCell ⟨w.heap.size + 1, m, none⟩ (.int .u32 (((x16 : Int) + s0 + x7 + s1) % 4294967296))).drew.drew := ⟨_, rfl⟩
          rw [← hw2]
          have HW2 : SchedW w w2 (sched s.data.toList (n + 1)) := by
            have hW := HW.out
            obtain ⟨hl, hm, hlk⟩ := HL.out
            rw [hw2]
            refine ⟨(hW.out.other (by omega)).drew.drew, ?_, (hW.below.setCell (by show w.heap.size ≤ w.heap.size + 1; omega) _).drew.drew, by show (wr.setCell _ _).heap.size = _; rw [World.size_setCell]; exact hW.size⟩
            have := (hW.row.set m (nextW l) (((x16 : Int) + s0 + x7 + s1) % 4294967296) (by rw [HN.out]; omega)).drew.drew
            have hset := padZ_set 64 l (nextW l) (by omega)
            rw [hlk] at hset
            rw [hset] at this
            rw [sched, ← hl]
            exact this
          have hk2 := HL.out.2.1
          clear hw2 HW HN HR ck fk c16 c15 c7 c2 x0 x1 x3 x4 q16 q15 q7 q2
          go_wp2
          go_roundw
          case rel => exact ⟨n + 1, by go_num, by omega, HW2⟩
          case measure => simp [intOf]; omega
        · have hn48 : n = 48 := by omega
          have hrow := hW.row
          rw [padZ_full 64 l (by omega)] at hrow
          have hlen : l.length = 64 := by omega
          have hm' : ¬ ((m : Int) < 64) := by omega
          have HL : Hid (l = sched s.data.toList 48) := by rw [hl, hn48]; rfl
          have HI : (Tryd.prog.info? 58).map (·.size) = some (kV .u32 l).toArray.size := by
            rw [show (kV .u32 l).toArray.size = 64 by simp [kV, hlen]]; kernel_rfl
          have HW : Hid (SchedW w wr l) := hW
          have hout : wr.heap[w.heap.size]? = some (.cells (kV .u32 (List.replicate 64 0)).toArray 58 (0, 0)) := hW.out
          have hsz : (kV .u32 (List.replicate 64 0)).toArray.size = (kV .u32 l).toArray.size := by simp [kV, hlen]
          clear hW hl hm hn48 hn hlt32 hll hlt hlen
          go_wp2_with (first
            | (refine wpList_load_row rfl 58 (.tmp 3) rfl (w.heap.size + 1) rfl 58 (kV .u32 l).toArray (0, 0) _ hrow Tryd.underlying58 rfl HI ?_)
            | (refine wpList_store_row rfl 58 (.tmp 2) (.tmp 85) rfl w.heap.size (kV .u32 l).toArray rfl rfl 58 _ hout HI hsz (kV_one _ _) ?_))
          refine bodyPost_ret (results_cell_row Tryd.results39 _ _ w.heap.size 58 (kV .u32 l).toArray (0, 0) _ rfl (Row.stored HW.out.out) Tryd.underlying58 rfl HI) rfl ⟨by rw [HL.out], below_setRow HW.out.below (Nat.le_refl _) _⟩

end Go.Proofs.YtfbdbeaijkhbfaaDoor
