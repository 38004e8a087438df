/- What the laws' own turned answers: a text with one byte another; and what the draws of texts answer. -/
import Derived.Test.YtfbdbeaijkhbfaaDoorCodeIn
import Derived.Test.YtfbdbeaijkhbfaaDoorInfoB
import Derived.Deep.RegionHeld3
import Derived.Lib.ConvBytes
namespace Go.Proofs.YtfbdbeaijkhbfaaDoor
open Go.RowKit
set_option linter.unusedVariables false

theorem xorRight (a b c : Nat) (h : a ^^^ c = b ^^^ c) : a = b := by
  have h2 := congrArg (· ^^^ c) h
  simpa [Nat.xor_assoc] using h2

theorem xorNe (a d : Nat) (hd : 0 < d) (hd2 : d < 256) (ha : a < 256) : UInt8.ofNat (a ^^^ d) ≠ UInt8.ofNat a := by
  intro h
  have hx : a ^^^ d < 256 := by
    have h1 : a < 2 ^ 8 := by omega
    have h2 : d < 2 ^ 8 := by omega
    have := Nat.xor_lt_two_pow h1 h2
    omega
  have k1 := byte_of _ hx
  have k2 := byte_of _ ha
  rw [h] at k1
  have h0 : d ^^^ a = 0 ^^^ a := by rw [Nat.xor_comm d a]; simp; omega
  have := xorRight d 0 a h0
  omega

/-- '[]byte(s)': the bytes in a new row that may be written. -/
theorem conv_bytes (L : List UInt8) (m : Nat) (hm : L.length = m) (w : World) : ∃ w5 c, (convert 9 22 (.string ⟨L.toArray⟩)).run Tryd.prog w = .ok (.slice (some ⟨w.heap.size, 0, none⟩) m c) w5 ∧ Below w.heap.size w w5 ∧ w5.heap.size = w.heap.size + 1 ∧
    ∀ j, j < m → ∃ b : UInt8, L[j]? = some b ∧ w5.cell? ⟨w.heap.size, j, none⟩ = some (.int .u8 (b.toNat : Int)) ∧ w5.frozen? ⟨w.heap.size, j, none⟩ = false := by
  have hs : (⟨L.toArray⟩ : ByteArray).size = m := by show L.toArray.size = _; rw [List.size_toArray, hm]
  refine ⟨Lib.bytesWorld w 5 ⟨L.toArray⟩, grownCap w m 0 5, ?_, ⟨rfl, rfl, rfl, ?_, fun j hj => Lib.bytesWorld_at_old w 5 _ j hj⟩, Lib.bytesWorld_size _ _ _, fun j hj => ?_⟩
  · rw [Lib.run_convert_string_bytes w 9 22 5 ⟨L.toArray⟩ Tryd.underlying9 Tryd.underlying22 Tryd.underlying5, hs]
  · rw [Lib.bytesWorld_size]; omega
  · have hj' : j < L.length := by omega
    refine ⟨L[j], List.getElem?_eq_getElem hj', ?_, ?_⟩
    · rw [Lib.bytesWorld_cell w 5 ⟨L.toArray⟩ j (by omega)]
      simp [List.getD, hj']
    · unfold World.frozen?
      simp only [Lib.bytesWorld_at_new]
      simp [Lib.bytesCells]
      omega

set_option maxRecDepth 100000 in
set_option maxHeartbeats 4000000 in
theorem turned_any (L : List UInt8) (m g pc z0 z1 : Nat) (w4 : World) (hLm : L.length = m) (hm0 : 0 < m) (hmb : m ≤ 1000000) (p0 : w4.cell? ⟨g, 0, none⟩ = some (.int .i64 (z0 : Int))) (p1 : w4.cell? ⟨g, 1, none⟩ = some (.int .i64 (z1 : Int))) (y0 : z0 < 10000) (y1 : z1 < 10000) :
    Calls Tryd.prog 17 #[.string ⟨L.toArray⟩, .slice (some ⟨g, 0, none⟩) 12 pc] w4 fun e w' => ∃ M : List UInt8, e = .returned (.string ⟨M.toArray⟩) ∧ M.length = m ∧ M ≠ L ∧ Below w4.heap.size w4 w' := by
  have hg2 := World.block_lt_of_cell? w4 _ p0
  have hg3 := World.block_lt_of_cell? w4 _ p1
  obtain ⟨w5, bc, hcv, b5, s5, hbytes⟩ := conv_bytes L m hLm w4
  have q0 : w5.cell? ⟨g, 0, none⟩ = some (.int .i64 (z0 : Int)) := (b5.cell hg2).trans p0
  have q1 : w5.cell? ⟨g, 1, none⟩ = some (.int .i64 (z1 : Int)) := (b5.cell hg3).trans p1
  clear p0 p1 hg2 hg3
  obtain ⟨i, hi⟩ : ∃ i, i = z0 % m := ⟨_, rfl⟩
  have hi1 : i < m := by rw [hi]; exact Nat.mod_lt _ (by omega)
  obtain ⟨d, hd⟩ : ∃ d, d = 1 + z1 % 255 := ⟨_, rfl⟩
  have hd1 : d < 256 := by omega
  obtain ⟨c, hc, hcc, hfz⟩ := hbytes i hi1
  have e1 : (z0 : Int) % (m : Int) = (i : Int) := by rw [hi]; simp
  have hclt : c.toNat < 256 := c.toNat_lt
  have ex : bits .xor .u8 (c.toNat : Int) (d : Int) = ((c.toNat ^^^ d : Nat) : Int) := u8_xor_nat _ _ hclt hd1
  have HX : Hid (0 < d) := by unfold Hid; omega
  have HL : Hid (L.length = m) := hLm
  have HB : Hid (Below w4.heap.size w4 w5 ∧ w5.heap.size = w4.heap.size + 1 ∧ (∀ j, j < m → ∃ b : UInt8, L[j]? = some b ∧ w5.cell? ⟨w4.heap.size, j, none⟩ = some (.int .u8 (b.toNat : Int)) ∧ w5.frozen? ⟨w4.heap.size, j, none⟩ = false)) := ⟨b5, s5, hbytes⟩
  have m0 : (0 : Int) < (m : Int) := by omega
  have i0 : (i : Int) < (m : Int) := by omega
  have d0 : (d : Int) < 256 := by omega
  obtain ⟨r, hr⟩ : ∃ r, r = z1 % 255 := ⟨_, rfl⟩
  have t1 : (z1 : Int).tmod 255 = (r : Int) := by rw [Int.tmod_eq_emod_of_nonneg (by omega), hr]; simp
  have t2 : IntKind.i64.wrap (r : Int) = (r : Int) := IntWalk.i64_in _ (by omega)
  have t3 : IntKind.i64.wrap (1 + (r : Int)) = (d : Int) := by rw [IntWalk.i64_in _ (by omega)]; omega
  have t4 : IntKind.u8.wrap (d : Int) = (d : Int) := IntWalk.u8_in _ (by omega)
  clear hi hd hr b5 hbytes hLm
  go_enter Tryd.func17, Tryd.ntmps17
  go_wp2
  go_region
  obtain ⟨w6, hw6⟩ : ∃ w6, w6 = (w5.setCell ⟨w4.heap.size, i, none⟩ (.int .u8 ((c.toNat ^^^ d : Nat) : Int))).drew := ⟨_, rfl⟩
  rw [← hw6]
  obtain ⟨M, hM⟩ : ∃ M, M = L.set i (UInt8.ofNat (c.toNat ^^^ d)) := ⟨_, rfl⟩
  have hMm : M.length = m := by rw [hM, List.length_set]; exact HL.out
  have c6 : Below w4.heap.size w4 w6 := by rw [hw6]; exact (HB.out.1.setCell (Nat.le_refl _) _).drew
  have hx8 : c.toNat ^^^ d < 256 := by
    have h1 : c.toNat < 2 ^ 8 := by omega
    have h2 : d < 2 ^ 8 := by omega
    have := Nat.xor_lt_two_pow h1 h2
    omega
  have hback : (convert 22 9 (.slice (some ⟨w4.heap.size, 0, none⟩) m bc)).run Tryd.prog w6 = .ok (.string ⟨M.toArray⟩) w6 := by
    rw [← hMm]
    refine run_convert_bytes_back w6 22 9 5 ⟨w4.heap.size, 0, none⟩ bc M Tryd.underlying22 Tryd.underlying5 Tryd.underlying9 (fun j hj => ?_)
    rw [Addr.add_lit, Nat.zero_add, hw6]
    obtain ⟨b, hb1, hb2, _⟩ := HB.out.2.2 j (by omega)
    show (w5.setCell ⟨w4.heap.size, i, none⟩ (.int .u8 ((c.toNat ^^^ d : Nat) : Int))).cell? ⟨w4.heap.size, j, none⟩ = _
    by_cases hji : j = i
    · subst hji
      rw [World.cell?_setCell_same _ _ _ hb2]
      have : M[j] = UInt8.ofNat (c.toNat ^^^ d) := by simp [hM]
      rw [this, ← byte_of _ hx8]
    · rw [World.cell?_setCell_other _ _ _ _ (fun e => hji (by simpa using (congrArg Addr.off e).symm)), hb2]
      have h3 : M[j] = b := by
        have h4 : M[j]? = some b := by rw [hM, List.getElem?_set_ne (by omega)]; exact hb1
        rw [List.getElem?_eq_getElem hj] at h4
        exact Option.some.inj h4
      rw [h3]
  have hne : M ≠ L := by
    intro e
    have h4 : M[i]? = some c := by rw [e]; exact hc
    have hiL : i < L.length := by rw [HL.out]; exact hi1
    rw [hM, List.getElem?_set_self hiL] at h4
    refine xorNe c.toNat d HX.out hd1 hclt ?_
    rw [Option.some.inj h4]; simp
  have HN : Hid (M ≠ L ∧ M.length = m) := ⟨hne, hMm⟩
  clear hw6 hM hne q0 q1 hcc hfz hc ex hMm
  go_wp2
  go_ret
  exact ⟨M, rfl, HN.out.2, HN.out.1, c6⟩

set_option maxRecDepth 100000 in
set_option maxHeartbeats 1000000 in
theorem pick_at (n : Nat) (cs : Array Value) (q : Nat) (p : Nat) (a : Option Addr) (len cap : Nat) (w : World) (zs : List Int) (hC : Cur w p a len cap) (hq : w.heap[q]? = some (.cells cs 3 (0, 0))) (hqp : q ≠ p) (h0 : 0 < n) (hn : n ≤ 256)
    (hall : ∀ j, j < n → ∃ z : Int, z ∈ zs ∧ cs[j]? = some (.int .i64 z)) :
    Calls Tryd.prog 28 #[.pointer (some ⟨p, 0, none⟩), .slice (some ⟨q, 0, none⟩) n n] w fun e w' => ∃ z : Int, z ∈ zs ∧ e = .returned (.int .i64 z) ∧ Cur w' p a len cap ∧ w.grownBy w' (some p) := by
  have HC : Hid (Cur w p a len cap) := hC
  have HA : Hid (∀ j, j < n → ∃ z : Int, z ∈ zs ∧ cs[j]? = some (.int .i64 z)) := hall
  have HQ : Hid (w.heap[q]? = some (.cells cs 3 (0, 0))) := hq
  clear hC hall hq
  go_enter Tryd.func28, Tryd.ntmps28
  go_wp2_with fail
  refine (below_any n p a len cap _ HC.out (by omega)).mono ?_
  rintro e w1 ⟨x, hx, _, _, rfl, hc1, hg1⟩
  have hxn := hx h0
  obtain ⟨z, z1, hz⟩ := HA.out x hxn
  have hq1 : w1.heap[q]? = some (.cells cs 3 (0, 0)) := (hg1.block q (Array.getElem?_eq_some_iff.1 HQ.out).1 (by simpa using hqp)).trans HQ.out
  have hcell : w1.cell? ⟨q, x, none⟩ = some (.int .i64 z) := cell_in hq1 hz
  have hxi : (x : Int) < (n : Int) := by omega
  clear hq1 hx hz
  go_wp2
  go_ret
  exact ⟨z, z1, rfl, hc1, hg1⟩

set_option maxRecDepth 100000 in
set_option maxHeartbeats 1000000 in
theorem some_any (p : Nat) (a : Option Addr) (len cap : Nat) (w : World) (hC : Cur w p a len cap) :
    Calls Tryd.prog 19 #[.pointer (some ⟨p, 0, none⟩)] w fun e w' => ∃ l : List UInt8, l.length ≤ 200 ∧ e = .returned (.string ⟨l.toArray⟩) ∧ Cur w' p a len cap ∧ w.grownBy w' (some p) := by
  have hcl := hC.lt
  have hco := hC.code
  have HC : Hid (Cur w p a len cap) := hC
  have HCO : Hid (∀ b off, a = some ⟨b, off, none⟩ → 0 < len → b < w.heap.size) := hco
  clear hC hco
  go_enter Tryd.func19, Tryd.ntmps19
  go_wp2_with fail
  refine (pick_at 13 _ w.heap.size p a len cap _ [0, 1, 3, 9, 54, 55, 56, 63, 64, 65, 119, 120, 200] (HC.out.grown (World.grownBy_alloc w _ none) hcl HCO.out (by simp)) (heap_alloc_new w _) (by omega) (by omega) (by omega) ?_).mono ?_
  · intro j hj
    have : j = 0 ∨ j = 1 ∨ j = 2 ∨ j = 3 ∨ j = 4 ∨ j = 5 ∨ j = 6 ∨ j = 7 ∨ j = 8 ∨ j = 9 ∨ j = 10 ∨ j = 11 ∨ j = 12 := by omega
    rcases this with rfl | rfl | rfl | rfl | rfl | rfl | rfl | rfl | rfl | rfl | rfl | rfl | rfl
    all_goals exact ⟨_, by decide, rfl⟩
  · rintro e w2 ⟨z, hz, rfl, hc2, hg2⟩
    have hz2 : 0 ≤ z ∧ z ≤ 200 := by simp at hz; omega
    have hg3 : w.grownBy w2 (some p) := grown_trans (World.grownBy_alloc w _ _) hg2
    obtain ⟨n, rfl⟩ : ∃ n : Nat, z = (n : Int) := ⟨z.toNat, by omega⟩
    clear hz hg2
    go_wp2_with fail
    refine (text_any n p a len cap _ hc2 (by omega)).mono ?_
    rintro e w3 ⟨l, hl, rfl, hc3, hg4⟩
    have hl' : l.length ≤ 200 := by omega
    have hg5 := grown_trans hg3 hg4
    clear hl
    go_wp2
    go_ret
    exact ⟨l, hl', rfl, hc3, hg5⟩

theorem drawText_any (a : Option Addr) (len cap : Nat) (w : World) (hC : Came w a len) :
    Calls Tryd.prog 6 #[.slice a len cap] w fun e w' => ∃ l : List UInt8, l.length ≤ 200 ∧ e = .returned (.string ⟨l.toArray⟩) ∧ Below w.heap.size w w' := by
  go_enter Tryd.func6, Tryd.ntmps6
  go_wp2_with fail
  refine (new_any a len cap _ hC).mono ?_
  rintro e w1 ⟨rfl, hc1, hb1⟩
  go_wp2_with fail
  refine (some_any _ a len cap _ hc1).mono ?_
  rintro e w2 ⟨l, hl, rfl, hc2, hg2⟩
  have hb2 := below_new hb1 hg2
  go_wp2
  go_ret
  exact ⟨l, hl, rfl, hb2⟩

end Go.Proofs.YtfbdbeaijkhbfaaDoor
